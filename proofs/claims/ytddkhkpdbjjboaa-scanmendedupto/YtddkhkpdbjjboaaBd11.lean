/- Texts shared by the claims of this seat, in one. -/
import Derived.Test.YtddkhkpdbjjboaaBd10
import Derived.Test.YtddkhkpdbjjboaaBd8
import Derived.Test.YtddkhkpdbjjboaaBd2
import Derived.Test.YtddkhkpdbjjboaaBd1
import Derived.Great.BuildSlice
import Derived.Laws.MakeOwn
import Derived.Test.YtddkhkpdbjjboaaBd9
import Derived.Test.YtddkhkpdbjjboaaBd4
/- seg's token reader: block, its contract. -/
namespace Go.Proofs.Ytddkhkpdbjjboaa
open Go.RowKit
set_option linter.unusedVariables false
set_option linter.unusedSimpArgs false
set_option maxRecDepth 100000

section
variable {A : Option Addr} {c G g B : Nat} {bs : List Int} {b1 n1 : Nat} {fw : List (Int × Nat × Nat)} {b2 n2 : Nat} {rw_ : List (Int × Nat × Nat)} {w w' : World} {s : List Bool}
theorem TR.lt (h : TR A c G g bs b1 n1 fw b2 n2 rw_ w s) : g < w.heap.size ∧ b1 < w.heap.size ∧ b2 < w.heap.size := by
  obtain ⟨at_, h1, h2, h3, _⟩ := h
  exact ⟨h1.blk.lt, h2.lt, h3.lt⟩
theorem TR.belowB (h : TR A c G g bs b1 n1 fw b2 n2 rw_ w s) (hb : Below B w w') (hg : g < B ∧ b1 < B ∧ b2 < B) : TR A c G g bs b1 n1 fw b2 n2 rw_ w' s := by
  obtain ⟨at_, h1, h2, h3, h4, h5, h6⟩ := h
  exact ⟨at_, h1.below hb hg.1, h2.below hb hg.2.1, h3.below hb hg.2.2, h4, h5, h6⟩
end
theorem stepS_sym {fw rw_ : List (Int × Nat × Nat)} {first : Bool} {s s2 : List Bool} {t : Int × Int × Int} (h1 : ∀ t ∈ fw, 0 ≤ t.1 ∧ t.1 ≤ 255) (h2 : ∀ t ∈ rw_, 0 ≤ t.1 ∧ t.1 ≤ 255) (h : stepS fw rw_ first s = .inr (t, s2)) : 0 ≤ t.1 ∧ t.1 ≤ 255 := by
  unfold stepS at h
  split at h
  · cases h
  · split at h
    · cases h
    · split at h
      · cases h
      · injection h with h
        injection h with h _
        rw [← h]
        cases first
        · exact nextS_wf h2
        · exact nextS_wf h1
theorem next_split {A : Option Addr} {c G g : Nat} {bs : List Int} {b1 n1 : Nat} {fw : List (Int × Nat × Nat)} {b2 n2 : Nat} {rw_ : List (Int × Nat × Nat)} {w w' : World} {s : List Bool} {first : Bool} {e : Ending}
    (h : NextPost (TR A c G g bs b1 n1 fw b2 n2 rw_) g w (stepS fw rw_ first s) e w') :
    ∃ (er : Int) (t : Int × Int × Int), e = .returned (.tuple #[tokV t, .int .i64 er]) ∧ w.grownBy w' (some g) ∧ ((er ≠ 0 ∧ stepS fw rw_ first s = .inl er) ∨ (er = 0 ∧ ∃ s2, stepS fw rw_ first s = .inr (t, s2) ∧ TR A c G g bs b1 n1 fw b2 n2 rw_ w' s2)) := by
  cases hst : stepS fw rw_ first s with
  | inl er => rw [hst] at h; exact ⟨er, (0, 0, 0), h.1, h.2, .inl ⟨stepS_ne hst, rfl⟩⟩
  | inr q => obtain ⟨t, s2⟩ := q; rw [hst] at h; exact ⟨0, t, h.1, h.2.1, .inr ⟨rfl, s2, rfl, h.2.2⟩⟩
/-- What the loop keeps. -/
structure BI (A : Option Addr) (c G g : Nat) (bs : List Int) (b1 n1 : Nat) (fw : List (Int × Nat × Nat)) (b2 n2 : Nat) (rw_ : List (Int × Nat × Nat)) (before : Int) (D : Int × List Int × List (Int × Int × Int) × Option (List Bool)) (w : World) (T0 : Nat) (toks : List (Int × Int × Int)) (s : List Bool) (er : Int) (t : Int × Int × Int) (v : Value) (wr : World) : Prop where
  inv : SBInv (stepS fw rw_) before D toks s
  own : Owns (T0 + 1) [tokRow v toks] wr
  res : Blk wr w.heap.size zeroB 42
  tok : Blk wr T0 (tokL t) 76
  kept : w.grownBy wr (some g)
  low : w.heap.size < T0
  sm : ∀ x ∈ toks, x.1 ≤ 255
  z : (er ≠ 0 ∧ stepS fw rw_ toks.isEmpty s = .inl er) ∨ (er = 0 ∧ ∃ s2, stepS fw rw_ toks.isEmpty s = .inr (t, s2) ∧ TR A c G g bs b1 n1 fw b2 n2 rw_ wr s2)
/-- The way out. -/
theorem segBlock_out {A : Option Addr} {c G g : Nat} {bs : List Int} {b1 n1 : Nat} {fw : List (Int × Nat × Nat)} {b2 n2 : Nat} {rw_ : List (Int × Nat × Nat)} {w w5 : World} {D : Int × List Int × List (Int × Int × Int) × Option (List Bool)} {os : List Int} {er : Int} {a : Act} (hd : D.1 = er) (ho : outBk D = os) (hl : os.length = 64)
    (h4 : a.tmps.getD 4 undef = .pointer (some ⟨w.heap.size, 0, none⟩)) (h5 : a.tmps.getD 5 undef = .int .i64 er) (hdf : a.defers = [])
    (HB : Blk w5 w.heap.size (ints .i64 os) 42) (hk : w.grownBy w5 (some g)) (hs : ∀ s', D.2.2.2 = some s' → TR A c G g bs b1 n1 fw b2 n2 rw_ w5 s') :
    bodyPost Try.prog Try.f52 (fun e w' => e = .returned (.tuple #[blkV (outBk D), .int .i64 D.1]) ∧ w.grownBy w' (some g) ∧ ∀ s', D.2.2.2 = some s' → TR A c G g bs b1 n1 fw b2 n2 rw_ w' s') .ret a w5 := by
  rw [hd, ho]
  exact bodyPost_ret (results_row_tmp rfl _ _ w.heap.size 42 (ints .i64 os).toArray (0, 0) _ (.int .i64 er) h4 h5 HB Try.underlying42 rfl (by simp only [List.size_toArray]; exact info_blkn (by rw [ints_length, hl]))) hdf ⟨rfl, hk, hs⟩
set_option maxRecDepth 100000 in
set_option maxHeartbeats 8000000 in
theorem segBlock_any (A : Option Addr) (c G g : Nat) (bs : List Int) (b1 n1 : Nat) (fw : List (Int × Nat × Nat)) (b2 n2 : Nat) (rw_ : List (Int × Nat × Nat)) (before : Int) (w : World) (s : List Bool) (h : TR A c G g bs b1 n1 fw b2 n2 rw_ w s) (hby : Bytes bs)
    (hpf1 : PF fw) (hsm1 : ∀ t ∈ fw, 0 ≤ t.1 ∧ t.1 ≤ 255) (hpf2 : PF rw_) (hsm2 : ∀ t ∈ rw_, 0 ≤ t.1 ∧ t.1 ≤ 255) (hb : -2047 ≤ before ∧ before ≤ 2047) :
    Calls Try.prog 52 #[.pointer (some ⟨g, 0, none⟩), .int .i64 before] w fun e w' =>
      e = .returned (.tuple #[blkV (outBk (gB (stepS fw rw_) before s)), .int .i64 (gB (stepS fw rw_) before s).1]) ∧ w.grownBy w' (some g) ∧ ∀ s', (gB (stepS fw rw_) before s).2.2.2 = some s' → TR A c G g bs b1 n1 fw b2 n2 rw_ w' s' := by
  obtain ⟨D, hD⟩ : ∃ D, D = gB (stepS fw rw_) before s := ⟨_, rfl⟩
  rw [← hD]
  obtain ⟨hgl, hl1, hl2⟩ := h.lt
  have hb0 := below1 w (.cells zeroB.toArray 42)
  have HB0 := Blk.new w zeroB 42
  have hz0 : (w.alloc (.cells zeroB.toArray 42)).heap.size = w.heap.size + 1 := by simp
  have HF := veil (firstToken_any A c G g bs b1 n1 fw b2 n2 rw_ _ s (h.belowB hb0 ⟨hgl, hl1, hl2⟩) hby hpf1 hsm1)
  have HRt := veil (fun W s' (hr : TR A c G g bs b1 n1 fw b2 n2 rw_ W s') => restToken_any A c G g bs b1 n1 fw b2 n2 rw_ W s' hr hby hpf2 hsm2)
  have HSy := veil (fun first s s2 t => stepS_sym (fw := fw) (rw_ := rw_) (first := first) (s := s) (s2 := s2) (t := t) hsm1 hsm2)
  have hg0 : w.grownBy (w.alloc (.cells zeroB.toArray 42)) (some g) := grown_below (World.grownBy.refl w _) hb0 (Nat.le_refl _)
  have HD := veil hD
  have HBf := veil hb
  have hzl := veil zeroB_length
  have hzone := ints_one (k := .i64) (l := List.replicate 64 0)
  clear h hpf1 hsm1 hpf2 hsm2 hD hb hb0
  go_enter Try.func52, Try.ntmps52
  go_wp2_with fail
  refine HF.out.mono ?_
  rintro e w2 hN
  obtain ⟨er, t0, p0, p1, p2, he, hg2, ht, hzz⟩ : ∃ (er : Int) (t0 : Int × Int × Int) (p0 p1 p2 : Int), e = .returned (.tuple #[tokV (p0, p1, p2), .int .i64 er]) ∧ (w.alloc (.cells zeroB.toArray 42)).grownBy w2 (some g) ∧ t0 = (p0, p1, p2) ∧ ((er ≠ 0 ∧ stepS fw rw_ true s = .inl er) ∨ (er = 0 ∧ ∃ s2, stepS fw rw_ true s = .inr (t0, s2) ∧ TR A c G g bs b1 n1 fw b2 n2 rw_ w2 s2)) := by
    cases hst : stepS fw rw_ true s with
    | inl er => rw [hst] at hN; exact ⟨er, (0, 0, 0), 0, 0, 0, hN.1, hN.2, rfl, .inl ⟨stepS_ne hst, rfl⟩⟩
    | inr q => obtain ⟨t, s2⟩ := q; rw [hst] at hN; exact ⟨0, t, t.1, t.2.1, t.2.2, hN.1, hN.2.1, rfl, .inr ⟨rfl, s2, rfl, hN.2.2⟩⟩
  subst he
  have hB2 := HB0.kept hg2 (by simp; omega)
  have hg3 := hg0.trans hg2
  have hz2 := hg2.size
  rw [hz0] at hz2
  have hb3 := below1 w2 (.cells (tokL t0).toArray 76)
  have HI0 : Hid (BI A c G g bs b1 n1 fw b2 n2 rw_ before D w w2.heap.size [] s er t0 (.slice none 0 0) (w2.alloc (.cells (tokL t0).toArray 76))) :=
    ⟨.inl ⟨rfl, HD.out⟩, (Owns.nil (by simp)).fresh _ _, hB2.below hb3 (by omega), Blk.new w2 (tokL t0) 76, grown_below hg3 hb3 (by omega), by omega, by simp, by
      rcases hzz with h | ⟨h, s2, h1, h2⟩
      · exact .inl h
      · exact .inr ⟨h, s2, h1, h2.belowB hb3 (by omega)⟩⟩
  subst ht
  obtain ⟨T0, hT0⟩ : ∃ T0, T0 = w2.heap.size := ⟨_, rfl⟩
  rw [← hT0] at HI0
  have HT0 := veil hT0
  have hone0 := tokL_one (0, 0, 0)
  have hone := tokL_one (p0, p1, p2)
  clear hzz hN HB0 hg0 hg2 hB2 hg3 hb3 HF HD hT0
  unfold tokV
  go_upto_region 2 with (first
    | (refine wpList_store_new w2 rfl 76 (.tmp 6) (.tmp 15) rfl (tokL (0, 0, 0)).toArray (tokL (p0, p1, p2)) rfl rfl info_tok3 rfl hone ?_)
    | fail)
  rw [← HT0.out]
  go_wp2_with fail
  go_loopg [7, 8, 9, 10, 11] 65 (fun gk v7 v8 v9 v10 v11 wr => ∃ (toks : List (Int × Int × Int)) (s1 : List Bool) (er : Int) (t : Int × Int × Int), gk = 65 - toks.length ∧ v7 = .int .i64 er ∧ Hid (BI A c G g bs b1 n1 fw b2 n2 rw_ before D w T0 toks s1 er t v8 wr))
  case atStart => exact ⟨[], s, er, (p0, p1, p2), rfl, rfl, HI0⟩
  case round =>
    clear HI0 hone
    obtain ⟨toks, s1, er, ⟨q0, q1, q2⟩, rfl, rfl, HI⟩ := hrel
    have hfew := HI.out.inv.few
    have hTz := HI.out.tok.lt
    have hlow := HI.out.low
    by_cases he : er = 0
    · subst he
      obtain ⟨s2, hst, hTR⟩ : ∃ s2, stepS fw rw_ toks.isEmpty s1 = .inr ((q0, q1, q2), s2) ∧ TR A c G g bs b1 n1 fw b2 n2 rw_ wr s2 := by
        rcases HI.out.z with ⟨h, _⟩ | ⟨_, h⟩
        · exact absurd rfl h
        · exact h
      have hsy := HSy.out _ _ _ _ hst
      have HGo := veil (HI.out.inv.go hst hsy.2 HBf.out)
      have c0 := HI.out.tok.cell (i := 0) (v := .int .i64 q0) rfl
      have c1 := HI.out.tok.cell (i := 1) (v := .int .i64 q1) rfl
      have c2 := HI.out.tok.cell (i := 2) (v := .int .i64 q2) rfl
      have HO := HI.out.own
      have HRes := veil HI.out.res
      have HTok := veil HI.out.tok
      have HKept := veil HI.out.kept
      have HTR := veil hTR
      have Hfew : Hid (toks.length + 1 ≤ 1099511627776) := by show _ ≤ _; omega
      obtain ⟨L, hL⟩ : ∃ L, L = toks ++ [(q0, q1, q2)] := ⟨_, rfl⟩
      have hsmL : ∀ x ∈ L, x.1 ≤ 255 := by
        intro x hx
        rw [hL] at hx
        rcases List.mem_append.1 hx with hx | hx
        · exact HI.out.sm x hx
        · rw [List.mem_singleton.1 hx]; exact hsy.2
      have HsmL := veil hsmL
      have hLl : L.length = toks.length + 1 := by rw [hL]; simp
      have HLl := veil hLl
      rw [← hL] at HGo
      have HL := veil hL
      clear hst hsy hTR HI hsmL hLl hL
      go_upto_region 5 with (first
        | (refine wpList_ownK wr rfl (.tmp 19) (.tmp 21) rfl (T0 + 1) u8 toks [] rfl HO q0 q1 q2 rfl Hfew.out ?_; intro v' w3 HO3 hb3 hs3)
        | fail)
      rw [← HL.out] at HO3
      obtain ⟨A5, c5, rfl, hs5, hc5, hm5⟩ := tok_form HO3
      have HB := veil (block_any before A5 c5 w3.heap.size L w3 hs5 (Nat.le_refl _) hc5 hm5 (fun x hx => by have := HsmL.out x hx; omega))
      have hRes3 := HRes.out.below hb3 (by omega)
      have hTok3 := HTok.out.below hb3 (by omega)
      have hK3 := grown_below HKept.out hb3 (by omega)
      have hTR3 := HTR.out.belowB hb3 (by omega)
      clear c0 c1 c2 hs5 HRes HTok HKept HTR HO hb3
      go_wp2_with fail
      refine HB.out.mono ?_
      rintro e w4 ⟨rfl, hb4⟩
      have hz4 := hb4.size
      have hO4 := HO3.below hb4
      have hRes4 := hRes3.below hb4 (by omega)
      have hTok4 := hTok3.below hb4 (by omega)
      have hK4 := grown_below hK3 hb4 (by have := hK3.size; omega)
      have hTR4 := hTR3.belowB hb4 (by omega)
      obtain ⟨os, hos⟩ : ∃ os, os = oP before L := ⟨_, rfl⟩
      obtain ⟨E, hE⟩ : ∃ E, E = (decP before L).1 := ⟨_, rfl⟩
      have hosl : os.length = 64 := by rw [hos]; exact oP_length _ _
      rw [← hos, ← hE]
      have Hosl : Hid ((ints .i64 os).length = 64) := by show _ = _; rw [ints_length, hosl]
      have hone := ints_one (k := .i64) (l := os)
      have hr5 := range_new w4 (ints .i64 os) 42
      have hb5 := below1 w4 (.cells (ints .i64 os).toArray 42)
      have hz5 : (w4.alloc (.cells (ints .i64 os).toArray 42)).heap.size = w4.heap.size + 1 := by simp
      have hO5 := hO4.alloc (.cells (ints .i64 os).toArray 42)
      have hRes5 := hRes4.below hb5 (by omega)
      have hTok5 := hTok4.below hb5 (by omega)
      have hK5 := grown_below hK4 hb5 (by have := hK4.size; omega)
      have hTR5 := hTR4.belowB hb5 (by omega)
      have Hos := veil hos
      have HE := veil hE
      obtain ⟨ys, hys⟩ : ∃ ys, ys = ints .i64 os := ⟨_, rfl⟩
      have Hys := veil hys
      unfold blkV
      rw [← hys] at hr5 Hosl hone hb5 hz5 hO5 hRes5 hTok5 hK5 hTR5 ⊢
      have HO5 := veil hO5; have HRes5 := veil hRes5; have HTok5 := veil hTok5; have HK5 := veil hK5; have HTR5 := veil hTR5; have Hr5 := veil hr5
      have hsz5 := hK5.size
      clear HO3 hb4 hO4 hRes3 hRes4 hTok3 hTok4 hK3 hK4 hTR3 hTR4 hos hE HB hys hb5 hO5 hRes5 hTok5 hK5 hTR5 hr5
      go_upto_region 6 with (first
        | (refine wpList_store_new w4 rfl 42 (.tmp 9) (.tmp 27) rfl zeroB.toArray ys rfl rfl (info_blkn Hosl.out) (by rw [Hosl.out]; rfl) hone ?_)
        | fail)
      by_cases hE3 : E = 3
      · subst hE3
        have hS := HGo.out
        rw [← HE.out] at hS
        obtain ⟨_, hinv⟩ := hS.resolve_right (fun h => h.1 rfl)
        have HInv := veil hinv
        have HRt2 := veil (HRt.out _ _ HTR5.out)
        clear hS hinv HGo
        go_wp2_with fail
        refine HRt2.out.mono ?_
        rintro e w6 hN
        obtain ⟨er, t, he, hg6, hz6⟩ := next_split hN
        subst he
        obtain ⟨r0, r1, r2⟩ := t
        have hRes6 := HRes5.out.kept hg6 (by simp; omega)
        have hTok6 := HTok5.out.kept hg6 (by simp; omega)
        have hK6 := HK5.out.trans hg6
        have hO6 := HO5.out.kept hg6 (by omega)
        have hone6 := tokL_one (r0, r1, r2)
        have Hz6 := veil hz6
        have hsz6 := hg6.size
        clear hN hg6 hz6
        unfold tokV
        go_wp2_with (first
          | (refine wpList_store_blk w6 rfl 76 (.tmp 6) (.tmp 37) rfl T0 (tokL (q0, q1, q2)) (tokL (r0, r1, r2)) 76 hTok6 rfl rfl info_tok3 rfl hone6 ?_; intro w7 HB7 hg7)
          | fail)
        have hl1' := HTR5.out.lt
        go_roundg (65 - L.length)
        case rel =>
          refine ⟨L, s2, er, (r0, r1, r2), rfl, rfl, veil ⟨by rw [HL.out]; rw [HL.out] at HInv; exact HInv.out, hO6.kept hg7 (by omega), hRes6.kept hg7 (by simp; omega), HB7, grown_grown hK6 hg7 (by omega), hlow, HsmL.out, ?_⟩⟩
          have hne : L.isEmpty = false := by rw [HL.out]; cases toks <;> rfl
          rw [hne]
          rcases Hz6.out with h | ⟨h, s3, h1, h2⟩
          · exact .inl h
          · exact .inr ⟨h, s3, h1, h2.kept hg7 (by omega) (by omega) (by omega)⟩
        case measure => have := HLl.out; omega
      · have hEb : (E != 3) = true := by simpa using hE3
        have hS := HGo.out
        rw [← HE.out] at hS
        obtain ⟨_, h1, h2, h3, h4⟩ := hS.resolve_left (fun h => hE3 h.1)
        have HF1 := veil h1; have HF2 := veil h2; have HF3 := veil h3; have HF4 := veil h4
        have HE3 := veil hE3
        clear hS h1 h2 h3 h4 HGo hE3
        go_wp2_with (first
          | (refine wpList_load_mid rfl 42 (.tmp 9) rfl w4.heap.size 0 rfl ys _ Hr5.out Try.underlying42 rfl (info_blkn Hosl.out) ?_)
          | (refine wpList_store_blk (w4.alloc (.cells ys.toArray 42)) rfl 42 (.tmp 4) (.tmp 32) rfl w.heap.size zeroB ys 42 HRes5.out rfl rfl (info_blkn Hosl.out) (by rw [Hosl.out]; rfl) hone ?_; intro w7 HB7 hg7)
          | fail)
        refine segBlock_out (er := E) (os := os) HF1.out ?_ hosl rfl rfl rfl (by rw [← Hys.out]; exact HB7) (grown_grown HK5.out hg7 (Nat.le_refl _)) ?_
        · unfold outBk
          rw [Hos.out]
          unfold oP
          rw [← HE.out, HF1.out, HF2.out]
        · intro s' hs'
          by_cases h0 : D.1 = 0
          · have := HF3.out h0
            rw [this] at hs'
            injection hs' with hs'
            subst hs'
            exact HTR5.out.kept hg7 hgl (by omega) (by omega)
          · have := HF4.out h0
            rw [this] at hs'
            cases hs'
    · have hst : stepS fw rw_ toks.isEmpty s1 = .inl er := by
        rcases HI.out.z with ⟨_, h⟩ | ⟨h, _⟩
        · exact h
        · exact absurd h he
      have HDe := veil (HI.out.inv.err hst he)
      have hRes := HI.out.res
      have hK := HI.out.kept
      have HEn := veil he
      have hbe : (er == 0) = false := by simpa using he
      clear hst he
      go_wp2_with (first
        | (refine wpList_store_blk wr rfl 42 (.tmp 4) (.tmp 39) rfl w.heap.size zeroB zeroB 42 hRes rfl rfl (info_blkn hzl.out) rfl hzone ?_; intro w7 HB7 hg7)
        | fail)
      refine segBlock_out (er := er) (os := zero64) (by rw [HDe.out]) (by rw [HDe.out]; exact if_neg HEn.out) zero64_length rfl rfl rfl HB7 (grown_grown hK hg7 (Nat.le_refl _)) ?_
      intro s' hs'
      rw [HDe.out] at hs'
      cases hs'
end Go.Proofs.Ytddkhkpdbjjboaa

/- seg's bit reader: onlyFillLeft, its contract. -/
namespace Go.Proofs.Ytddkhkpdbjjboaa
open Go.RowKit
set_option linter.unusedVariables false
set_option linter.unusedSimpArgs false
set_option maxRecDepth 100000

theorem all_id {s : List Bool} : s.all id = true ↔ s = List.replicate s.length true := by
  rw [List.all_eq_true, List.eq_replicate_iff]
  exact ⟨fun h => ⟨rfl, h⟩, fun h => h.2⟩
theorem fillB_val {s : List Bool} {d : Nat} (hl : s.length = d) (hd : d < 8) : fillB s = decide ((valB s : Int) = ((2 ^ d - 1 : Nat) : Int)) := by
  unfold fillB
  rw [decide_eq_true (by omega), Bool.true_and, Bool.eq_iff_iff, all_id, decide_eq_true_iff, hl]
  have hp := Nat.two_pow_pos d
  constructor
  · intro h
    have := valB_bitsN d (2 ^ d - 1) (by omega)
    rw [bitsN_ones, ← h] at this
    rw [this]
  · intro h
    have h2 : valB s = 2 ^ d - 1 := by omega
    have := bitsN_valB s
    rw [h2, hl, bitsN_ones] at this
    exact this.symm
theorem fillB_long {s : List Bool} (hl : 8 ≤ s.length) : fillB s = false := by
  unfold fillB; rw [decide_eq_false (by omega)]; rfl
set_option maxRecDepth 100000 in
set_option maxHeartbeats 4000000 in
theorem onlyFill_any (A : Option Addr) (c G g : Nat) (bs : List Int) (m1 m2 : Value) (at_ : Nat) (w : World) (h : Rd A c G g bs m1 m2 at_ w) (hby : Bytes bs) :
    Calls Try.prog 53 #[.pointer (some ⟨g, 0, none⟩)] w fun e w' => e = .returned (.bool (fillB ((unpack bs).drop at_))) ∧ w.grownBy w' (some g) := by
  obtain ⟨F, hF⟩ : ∃ F, F = fillB ((unpack bs).drop at_) := ⟨_, rfl⟩
  rw [← hF]
  have HF := veil hF
  have hgl := h.blk.lt
  have hle := h.le
  have hfew := h.few
  have hlen : ((unpack bs).drop at_).length = 8 * bs.length - at_ := by rw [List.length_drop, unpack_length]
  have c0 := h.blk.cell (i := 0) (v := .slice A bs.length c) rfl
  have c1 := h.blk.cell (i := 1) (v := .int .i64 (at_ : Int)) rfl
  obtain ⟨d, hd⟩ : ∃ d : Nat, 8 * bs.length = at_ + d := ⟨8 * bs.length - at_, by omega⟩
  have HT := veil (fun W (hr : Rd A c G g bs m1 m2 at_ W) (hd : d ≤ 24) => take_any A c G g bs m1 m2 at_ d W hr hd hby)
  have hsub : IntKind.i64.wrap (IntKind.i64.wrap (8 * (bs.length : Int)) - (at_ : Int)) = (d : Int) := by
    have e : IntKind.i64.wrap (8 * (bs.length : Int)) = 8 * (bs.length : Int) := by rw [IntKind.wrap_i64]; omega
    rw [e, IntKind.wrap_i64]; omega
  have hsub2 : IntKind.i64.wrap (8 * (bs.length : Int) - (at_ : Int)) = (d : Int) := by rw [IntKind.wrap_i64]; omega
  have HR := veil h
  have Hd := veil hd
  have Hlen := veil hlen
  clear h hF hlen
  go_enter Try.func53, Try.ntmps53
  go_wp2_with fail
  go_quiet (fail)
  by_cases hd8 : d < 8
  · have hd8z : ¬ (8 : Int) ≤ (d : Int) := by omega
    have HTd := veil (HT.out (w.drewN nq) (HR.out.below ((Below.refl w.heap.size w).drewN nq) hgl) (by omega))
    have hg0 : w.grownBy (w.drewN nq) (some g) := grown_below (World.grownBy.refl w _) ((Below.refl w.heap.size w).drewN nq) (Nat.le_refl _)
    go_wp2_with fail
    refine HTd.out.mono ?_
    rintro e w2 ⟨hok, _⟩
    obtain ⟨rfl, hR2, hg2⟩ := hok (by omega)
    have HG := veil (hg0.trans hg2)
    have hld : ((unpack bs).drop at_).length = d := by rw [Hlen.out]; omega
    rw [List.take_of_length_le (by omega)]
    have hFX := fillB_val hld hd8
    obtain ⟨X, hX⟩ : ∃ X : Nat, X = valB ((unpack bs).drop at_) := ⟨_, rfl⟩
    rw [← hX] at hFX ⊢
    rw [← HF.out] at hFX
    have HFX := veil hFX
    have hX8 : X < 256 := by
      have := valB_lt ((unpack bs).drop at_)
      rw [hld, ← hX] at this
      have : 2 ^ d ≤ 2 ^ 8 := Nat.pow_le_pow_right (by omega) (by omega)
      omega
    clear hok hR2 hg2 hg0 HTd HT hFX hX hld hsub hsub2 hle hd8z c0 c1
    obtain rfl | rfl | rfl | rfl | rfl | rfl | rfl | rfl : d = 0 ∨ d = 1 ∨ d = 2 ∨ d = 3 ∨ d = 4 ∨ d = 5 ∨ d = 6 ∨ d = 7 := by omega
    · obtain ⟨b, hb⟩ : ∃ b : Bool, b = decide ((X : Int) = ((2 ^ 0 - 1 : Nat) : Int)) := ⟨_, rfl⟩
      have hbv : ((X : Int) == 0) = b := by rw [hb]; rfl
      rw [← hb] at HFX
      clear hb
      go_wp2_with fail
      all_goals (go_ret; exact ⟨by first | (rw [HFX.out]; done) | (rw [HFX.out]; rfl) | (rw [HFX.out]; simp_all), HG.out⟩)
    · obtain ⟨b, hb⟩ : ∃ b : Bool, b = decide ((X : Int) = ((2 ^ 1 - 1 : Nat) : Int)) := ⟨_, rfl⟩
      have hbv : ((X : Int) == 1) = b := by rw [hb]; rfl
      rw [← hb] at HFX
      clear hb
      go_wp2_with fail
      all_goals (go_ret; exact ⟨by first | (rw [HFX.out]; done) | (rw [HFX.out]; rfl) | (rw [HFX.out]; simp_all), HG.out⟩)
    · obtain ⟨b, hb⟩ : ∃ b : Bool, b = decide ((X : Int) = ((2 ^ 2 - 1 : Nat) : Int)) := ⟨_, rfl⟩
      have hbv : ((X : Int) == 3) = b := by rw [hb]; rfl
      rw [← hb] at HFX
      clear hb
      go_wp2_with fail
      all_goals (go_ret; exact ⟨by first | (rw [HFX.out]; done) | (rw [HFX.out]; rfl) | (rw [HFX.out]; simp_all), HG.out⟩)
    · obtain ⟨b, hb⟩ : ∃ b : Bool, b = decide ((X : Int) = ((2 ^ 3 - 1 : Nat) : Int)) := ⟨_, rfl⟩
      have hbv : ((X : Int) == 7) = b := by rw [hb]; rfl
      rw [← hb] at HFX
      clear hb
      go_wp2_with fail
      all_goals (go_ret; exact ⟨by first | (rw [HFX.out]; done) | (rw [HFX.out]; rfl) | (rw [HFX.out]; simp_all), HG.out⟩)
    · obtain ⟨b, hb⟩ : ∃ b : Bool, b = decide ((X : Int) = ((2 ^ 4 - 1 : Nat) : Int)) := ⟨_, rfl⟩
      have hbv : ((X : Int) == 15) = b := by rw [hb]; rfl
      rw [← hb] at HFX
      clear hb
      go_wp2_with fail
      all_goals (go_ret; exact ⟨by first | (rw [HFX.out]; done) | (rw [HFX.out]; rfl) | (rw [HFX.out]; simp_all), HG.out⟩)
    · obtain ⟨b, hb⟩ : ∃ b : Bool, b = decide ((X : Int) = ((2 ^ 5 - 1 : Nat) : Int)) := ⟨_, rfl⟩
      have hbv : ((X : Int) == 31) = b := by rw [hb]; rfl
      rw [← hb] at HFX
      clear hb
      go_wp2_with fail
      all_goals (go_ret; exact ⟨by first | (rw [HFX.out]; done) | (rw [HFX.out]; rfl) | (rw [HFX.out]; simp_all), HG.out⟩)
    · obtain ⟨b, hb⟩ : ∃ b : Bool, b = decide ((X : Int) = ((2 ^ 6 - 1 : Nat) : Int)) := ⟨_, rfl⟩
      have hbv : ((X : Int) == 63) = b := by rw [hb]; rfl
      rw [← hb] at HFX
      clear hb
      go_wp2_with fail
      all_goals (go_ret; exact ⟨by first | (rw [HFX.out]; done) | (rw [HFX.out]; rfl) | (rw [HFX.out]; simp_all), HG.out⟩)
    · obtain ⟨b, hb⟩ : ∃ b : Bool, b = decide ((X : Int) = ((2 ^ 7 - 1 : Nat) : Int)) := ⟨_, rfl⟩
      have hbv : ((X : Int) == 127) = b := by rw [hb]; rfl
      rw [← hb] at HFX
      clear hb
      go_wp2_with fail
      all_goals (go_ret; exact ⟨by first | (rw [HFX.out]; done) | (rw [HFX.out]; rfl) | (rw [HFX.out]; simp_all), HG.out⟩)
  · have hd8z : (8 : Int) ≤ (d : Int) := by omega
    have hFf : F = false := by rw [HF.out]; exact fillB_long (by rw [Hlen.out]; omega)
    subst hFf
    have HG : Hid (w.grownBy (w.drewN nq) (some g)) := grown_below (World.grownBy.refl w _) ((Below.refl w.heap.size w).drewN nq) (Nat.le_refl _)
    go_wp2_with fail
    go_ret
    exact ⟨rfl, HG.out⟩
end Go.Proofs.Ytddkhkpdbjjboaa

/- Blocks in a row: made, built, appended. -/
namespace Go.Proofs.Ytddkhkpdbjjboaa
open Go.RowKit
set_option linter.unusedVariables false
set_option linter.unusedSimpArgs false
set_option maxRecDepth 100000

theorem info_blk3 : (Try.prog.info? 42).map (fun i => (i.zero, i.size, i.bytes)) = some (some (.agg zeroB.toArray), 64, 512) := by kernel_rfl
theorem elem_blk : ElemOf Try.prog 28 42 64 512 := .mk' (z := .agg zeroB.toArray) Try.underlying28 (by kernel_rfl) rfl (by omega)
theorem run_make_blocks (n : Nat) (h : n ≤ 1000000) (u : World) : ∃ cur, (Instr.makeSlice 28 (.int .i64 0) (.int .i64 (n : Int))).run Try.prog u =
    .ok (.slice (some ⟨u.heap.size, 0, none⟩) 0 n) (u.alloc (.cells cur 42)) ∧ cur.size = n * 64 := by
  obtain ⟨i0, hi, hz0, hz1, hz2⟩ := info_parts info_blk3
  have h := run_make (P := Try.prog) u 28 42 i0 (.agg zeroB.toArray) Try.underlying28 hi hz0 .i64 .i64 0 n (by omega) (by omega) (by rw [hz2]; omega) (by omega)
  exact ⟨_, h, by simp [madeCells, hz1, Value.cells]⟩
abbrev blkRow (v : Value) (L : List (List Int)) : Row := ⟨42, 64, v, L.length, rowsC L⟩
theorem rowsC_append (a b : List (List Int)) : rowsC (a ++ b) = rowsC a ++ rowsC b := by simp [rowsC]
theorem rowsC_one (r : List Int) : rowsC [r] = ints .i64 r := by simp [rowsC]
theorem blkRow_append (v : Value) (l m : List (List Int)) : (⟨42, 64, v, l.length + m.length, rowsC l ++ rowsC m⟩ : Row) = blkRow v (l ++ m) := by simp [blkRow, rowsC_append]
/-- In a walk: append of one block just laid onto the first of the rows. -/
theorem wpList_ownB {ops : Array Oper} {rest : List Oper} {o : Oper} {a : Act} {Q : Exit → Act → World → Prop} (w0 : World) (hgd : Region.wanted o (yielded ops a.tmps) = true) (s x : Operand)
    (ho : o.op = .call { callee := .builtin .append, args := #[s, x], argTypes := #[28, 28] })
    (B : Nat) (v : Value) (l : List (List Int)) (rs : List Row) (hs : a.eval s = v) (HO : Owns B (blkRow v l :: rs) w0) (r : List Int) (ys : List Value) (hys : ys = ints .i64 r) (hr : r.length = 64) (hx : a.eval x = .slice (some ⟨w0.heap.size, 0, none⟩) 1 1)
    (h63 : l.length + 1 ≤ 1000000)
    (h : ∀ v' w', Owns B (blkRow v' (l ++ [r]) :: rs) w' → (w0.alloc (.cells ys.toArray 42)).grownBy w' v.ownBlock → Below B w0 w' → w0.heap.size < w'.heap.size → wpList Try.prog ops Q rest (a.put o.dst v') w') : wpList Try.prog ops Q (o :: rest) a (w0.alloc (.cells ys.toArray 42)) := by
  subst hys
  have e := rowsC_one r
  refine wpList_step fun K hK => ?_
  rw [if_pos hgd]
  refine wp_ownV _ s x _ ho B 42 64 512 elem_blk v l.length (rowsC l) rs hs (HO.alloc _) (w0.heap.size + 1) _ 1 1 (rowsC [r]) hx (by rw [e]; exact Seen.new w0 (ints .i64 r) _ _ (Nat.lt_succ_self _)) (by rw [e, ints_length, hr]) (by rw [e]; exact ints_one) (by unfold maxLen; omega) (by omega) ?_
  intro v' w' h2 hg h3
  have := h3.size
  refine hK _ _ (h v' w' ?_ hg (((Below.refl _ _).alloc HO.base _).trans h3) (by simp at this; omega))
  rw [← blkRow_append]
  exact h2
theorem fill_blk (ys : List Value) (hl : ys.length = 64) (base : Array Value) (hb : base.size = 64) : Instr.fill (fun i => some (i * 64, 64)) base [(0, .agg ys.toArray)] = some ys.toArray := by
  obtain ⟨r, h1, h2, h3⟩ := Great.fill_dense (s := 64) (by omega) [.agg ys.toArray] 0 base (by intro v hv; rw [List.mem_singleton.1 hv]; simpa [Value.cells] using hl) (by rw [hb]; simp)
  have e : (([Value.agg ys.toArray].zipIdx 0).map fun x => (x.2, x.1)) = [(0, .agg ys.toArray)] := rfl
  rw [e] at h1
  rw [h1]
  congr 1
  apply Array.ext_getElem?
  intro k
  rw [h3 k]
  by_cases hk : k < 64
  · rw [if_pos (by simp; omega)]
    simp [Nat.div_eq_of_lt hk, Nat.mod_eq_of_lt hk, Value.cells]
  · rw [if_neg (by simp; omega), Array.getElem?_eq_none (by omega), Array.getElem?_eq_none (by simp; omega)]
/-- In a walk: a slice of one block. -/
theorem wpList_buildBlk {ops : Array Oper} {rest : List Oper} {o : Oper} {a : Act} {w : World} {Q : Exit → Act → World → Prop} (hg : o.guard = none) (x : Operand) (ho : o.op = .buildSlice 28 1 #[(0, x)]) (ys : List Value) (hx : a.eval x = .agg ys.toArray) (hl : ys.length = 64)
    (h : wpList Try.prog ops Q rest (a.put o.dst (.slice (some ⟨w.heap.size, 0, none⟩) 1 1)) (w.alloc (.cells ys.toArray 42))) : wpList Try.prog ops Q (o :: rest) a w := by
  obtain ⟨i0, hi, hz0, hz1, hz2⟩ := info_parts info_blk3
  refine wpList_buildSlice hg 28 42 1 #[(0, x)] ho ys.toArray i0 (.agg zeroB.toArray) Try.underlying28 hi hz0 (by rw [hz1]; omega) (by rw [hz1]; omega) ?_ h
  have e : (#[(0, x)].map fun (i, x) => (i, a.eval x)).toList = [(0, .agg ys.toArray)] := by simp [hx]
  rw [e, hz1]
  exact fill_blk ys hl _ (by simp)
end Go.Proofs.Ytddkhkpdbjjboaa

/- table.Symbols: its contract. -/
namespace Go.Proofs.Ytddkhkpdbjjboaa
open Go.RowKit
set_option linter.unusedVariables false
set_option linter.unusedSimpArgs false
set_option maxRecDepth 100000

theorem make_mapC (n : Nat) (w : World) : (Instr.makeMap 102 (some (.int .i64 (n : Int)))).run Try.prog w = .ok (.map (some w.heap.size)) (w.alloc (.map #[] 0)) := by
  simp [Instr.makeMap, run_underlying Try.underlying102, asInt, newObj]
  rfl
set_option maxRecDepth 100000 in
set_option maxHeartbeats 4000000 in
theorem symbols_any (cs syms : List Int) (A : Option Addr) (c G : Nat) (w : World) (hcs : cs.length = 16) (hn : syms.length ≤ maxLen) (hb : ∀ x ∈ cs, -9223372036854775808 ≤ x ∧ x ≤ 9223372036854775807) (hs : Seen w G A (ints .i64 syms)) (hG : G ≤ w.heap.size) :
    Calls Try.prog 50 #[tabV cs A syms.length c] w fun e w' => ∃ v, e = .returned (.tuple #[v, .int .i64 (checkErr cs syms)]) ∧ (checkErr cs syms = 0 → ∃ b, v = .map (some b) ∧ w.heap.size ≤ b ∧ MapC w' b syms.length (codeF (outWords cs syms))) ∧ (checkErr cs syms ≠ 0 → v = .map none) ∧ Below w.heap.size w w' := by
  have hlen17 : (tabCells cs A syms.length c).length = 17 := tabCells_length hcs
  have hck := fun w1 h1 hG1 => words_any cs syms A c G w1 hcs hn hb h1 hG1
  have Hcs := veil hcs
  clear hcs hb
  obtain ⟨ys, hys⟩ : ∃ ys, ys = tabCells cs A syms.length c := ⟨_, rfl⟩
  have Hr := veil (range_new w ys 25)
  unfold tabV at hck ⊢
  rw [← hys] at hlen17 hck ⊢
  clear hys
  have Hck := veil hck; clear hck
  have H17 := veil hlen17; clear hlen17
  go_enter Try.func50, Try.ntmps50
  go_wp2_with (first
    | (refine wpList_load_mid rfl 25 (.tmp 1) rfl w.heap.size 0 rfl ys _ Hr.out Try.underlying25 rfl (by rw [H17.out]; exact info_tab) ?_)
    | fail)
  refine (Hck.out _ (hs.alloc hG _) (by simp; omega)).mono ?_
  rintro e w1 ⟨v, rfl, HO, hb1⟩
  have hbel1 : Below w.heap.size w w1 := (below1 _ _).trans (hb1.mono (by simp))
  have hz1 := hb1.size
  simp at hz1
  clear Hr hb1
  by_cases h0 : checkErr cs syms = 0
  · rw [h0]
    have H0 := veil h0
    obtain ⟨l, hf, how, hll⟩ := fine_of h0
    have h256 := hf.good.le
    rw [how] at HO
    have hwl : (mkWords syms l).length = syms.length := by rw [mkWords_length _ _ (by omega), hll]
    have hwf : ∀ t ∈ mkWords syms l, WF t.1 ∧ WF (t.2.1 : Int) ∧ WF (t.2.2 : Int) := fun t ht => fi_small hf Hcs.out ht
    obtain ⟨A5, c5, e5, hs5, _, _⟩ := HO.seen (List.mem_cons_self ..)
    simp only [wordRow] at e5 hs5
    obtain ⟨ws, hws⟩ : ∃ ws, ws = mkWords syms l := ⟨_, rfl⟩
    rw [← hws] at e5 hs5 hwl hwf how
    subst e5
    have How := veil how
    have Hwf := veil hwf
    have Hwl := veil hwl
    have hl256 : ws.length ≤ 256 := by omega
    have hmm := make_mapC ws.length w1
    clear hwf hll hf how HO h0 hwl hws
    go_wp2_with fail
    clear hmm
    go_loopg [8, 22] ws.length (fun gk p i wr => ∃ k : Nat, gk = ws.length - k ∧ k ≤ ws.length ∧ i = .int .i64 k ∧ MapC wr w1.heap.size k (codeF (ws.take k)) ∧ Below w1.heap.size w1 wr)
    case atStart => exact ⟨0, rfl, Nat.zero_le _, rfl, MapC.made w1, below1 _ _⟩
    case round =>
      obtain ⟨k, rfl, hk, rfl, HM, hbel⟩ := hrel
      by_cases hlt : k < ws.length
      · obtain ⟨g, o, s, n, cd, rfl, hg, hx, h1, h2, h3⟩ := hs5.triple hlt
        have hz := hbel.size
        rw [← hbel.cell (by simp; omega)] at h1 h2 h3
        have Hx := veil hx; clear hx
        go_wp2_with fail
        have hlen : k < maxLen := by unfold maxLen; omega
        have hwx : WF s ∧ WF (n : Int) ∧ WF (cd : Int) := Hwf.out _ (List.mem_of_getElem? Hx.out)
        have Hwx := veil hwx; clear hwx
        have hne : wr.heap.size ≠ w1.heap.size := by have := HM.lt; omega
        have HM2 := HM.below (below1 wr (Obj.cells #[Value.int IntKind.i64 s, Value.int IntKind.i64 (n : Int), Value.int IntKind.i64 (cd : Int)] 138)) HM.lt
        have hbel2 := hbel.trans ((below1 wr (Obj.cells #[Value.int IntKind.i64 s, Value.int IntKind.i64 (n : Int), Value.int IntKind.i64 (cd : Int)] 138)).mono hz)
        have c0 : (wr.alloc (Obj.cells #[Value.int IntKind.i64 s, Value.int IntKind.i64 (n : Int), Value.int IntKind.i64 (cd : Int)] 138)).cell? ⟨wr.heap.size, 0, none⟩ = some (.int .i64 s) := by simp
        have c1 : (wr.alloc (Obj.cells #[Value.int IntKind.i64 s, Value.int IntKind.i64 (n : Int), Value.int IntKind.i64 (cd : Int)] 138)).cell? ⟨wr.heap.size, 1, none⟩ = some (.int .i64 (n : Int)) := by simp
        have c2 : (wr.alloc (Obj.cells #[Value.int IntKind.i64 s, Value.int IntKind.i64 (n : Int), Value.int IntKind.i64 (cd : Int)] 138)).cell? ⟨wr.heap.size, 2, none⟩ = some (.int .i64 (cd : Int)) := by simp
        have hsz : wr.heap.size < (wr.alloc (Obj.cells #[Value.int IntKind.i64 s, Value.int IntKind.i64 (n : Int), Value.int IntKind.i64 (cd : Int)] 138)).heap.size := by simp
        generalize wr.alloc (Obj.cells #[Value.int IntKind.i64 s, Value.int IntKind.i64 (n : Int), Value.int IntKind.i64 (cd : Int)] 138) = W at *
        clear h1 h2 h3 HM hbel hs5
        generalize wr.heap.size = B at *
        go_region_held3 (fun w' => w'.cell? ⟨B, 0, none⟩ = some (.int .i64 s) ∧ w'.cell? ⟨B, 1, none⟩ = some (.int .i64 (n : Int)) ∧ w'.cell? ⟨B, 2, none⟩ = some (.int .i64 (cd : Int)))
          (first
            | go_keep
            | (go_split_ands
               refine ⟨?_, ?_, ?_⟩
               · (first | (refine (hb1.cell hsz).trans ?_; assumption) | (refine cell_far hgr2 hne ?_; assumption))
               · (first | (refine (hb1.cell hsz).trans ?_; assumption) | (refine cell_far hgr2 hne ?_; assumption))
               · (first | (refine (hb1.cell hsz).trans ?_; assumption) | (refine cell_far hgr2 hne ?_; assumption))))
          (first
            | (go_at_call 72; refine (field_any s n cd _).mono ?_; rintro e w3 ⟨rfl, hb1⟩; obtain ⟨w2, hup, HM3, hgr2⟩ := (HM2.below (below_of_drew hb1) HM2.lt).store hlen (p := ((n : Int), (cd : Int))) Hwx.out.2.1 Hwx.out.2.2 Hwx.out.1)
            | fail)
        have hbel3 : Below w1.heap.size w1 w2 := (hbel2.trans ((below_of_drew hb1).mono hbel2.size)).grown hgr2 (Nat.le_trans hbel2.size hb1.size) (fun j hj => by injection hj with hj; omega)
        have HM4 : MapC w2 w1.heap.size (k + 1) (codeF (ws.take (k + 1))) := by
          rw [take_snoc Hx.out, codeF_snoc]; exact HM3
        clear HM2 HM3 hup hbel2 hb1 hgr2
        go_wp2_with fail
        go_roundg (ws.length - (k + 1))
        case rel => exact ⟨k + 1, rfl, by omega, by go_num, HM4, hbel3⟩
        case measure => omega
      · obtain rfl : k = ws.length := by omega
        rw [List.take_length] at HM
        have hz := hbel.size
        have hwl := Hwl.out
        go_wp2
        go_ret2
        exact ⟨_, ret_two rfl (by rw [H0.out]; rfl), fun _ => ⟨_, rfl, by omega, by rw [← hwl, How.out]; exact HM⟩, fun h => absurd H0.out h, hbel1.trans (hbel.mono hbel1.size)⟩
  · have hne : (checkErr cs syms != 0) = true := by simpa using h0
    have H0 := veil h0
    clear h0 Hck HO
    obtain ⟨E, hE⟩ : ∃ E, E = checkErr cs syms := ⟨_, rfl⟩
    rw [← hE] at hne ⊢
    have HE := veil hE
    clear hE
    go_wp2
    go_ret2
    exact ⟨_, ret_two rfl (by rw [← HE.out]; rfl), fun h => absurd h H0.out, fun _ => rfl, hbel1⟩
end Go.Proofs.Ytddkhkpdbjjboaa

/- seg.Decode: its contract. -/
namespace Go.Proofs.Ytddkhkpdbjjboaa
open Go.RowKit
set_option linter.unusedVariables false
set_option linter.unusedSimpArgs false
set_option maxRecDepth 100000

theorem eTs_one {cs syms cs2 syms2 : List Int} (h : checkErr cs syms ≠ 0) : eTs cs syms cs2 syms2 = checkErr cs syms := if_neg h
theorem eTs_two {cs syms cs2 syms2 : List Int} (h : checkErr cs syms = 0) : eTs cs syms cs2 syms2 = checkErr cs2 syms2 := if_pos h
section
variable {cs syms cs2 syms2 bs : List Int} {n : Int}
theorem eDec_tab (h : eTs cs syms cs2 syms2 ≠ 0) : eDec cs syms cs2 syms2 bs n = eTs cs syms cs2 syms2 := if_pos h
theorem eDec_n (h : eTs cs syms cs2 syms2 = 0) (h2 : n < 0 ∨ 400 < n) : eDec cs syms cs2 syms2 bs n = 1 := by unfold eDec; rw [if_neg (by rw [h]; decide), if_pos h2]
theorem eDec_plain (h : eTs cs syms cs2 syms2 = 0) (h2 : ¬ (n < 0 ∨ 400 < n)) (h3 : plainErr bs ≠ 0) : eDec cs syms cs2 syms2 bs n = plainErr bs := by unfold eDec; rw [if_neg (by rw [h]; decide), if_neg h2, if_pos h3]
theorem eDec_dec (h : eTs cs syms cs2 syms2 = 0) (h2 : ¬ (n < 0 ∨ 400 < n)) (h3 : plainErr bs = 0) (h4 : (segD cs syms cs2 syms2 bs n.toNat).1 ≠ 0) : eDec cs syms cs2 syms2 bs n = (segD cs syms cs2 syms2 bs n.toNat).1 := by unfold eDec; rw [if_neg (by rw [h]; decide), if_neg h2, if_neg (by rw [h3]; decide), if_pos h4]
theorem eDec_fill (h : eTs cs syms cs2 syms2 = 0) (h2 : ¬ (n < 0 ∨ 400 < n)) (h3 : plainErr bs = 0) (h4 : (segD cs syms cs2 syms2 bs n.toNat).1 = 0) : eDec cs syms cs2 syms2 bs n = if fillB (segD cs syms cs2 syms2 bs n.toNat).2.2 = true then 0 else 4 := by unfold eDec; rw [if_neg (by rw [h]; decide), if_neg h2, if_neg (by rw [h3]; decide), if_neg (by rw [h4]; decide)]
end
theorem plainR_mem : ∀ (bs p : List Int), plainR bs = some p → ∀ x ∈ p, x ∈ bs
  | [], p, h, x, hx => by simp [plainR] at h; subst h; simp at hx
  | [y], p, h, x, hx => by
    by_cases hy : y = 255
    · subst hy; rw [plainR_end] at h; cases h
    · simp [plainR, hy] at h; subst h; exact hx
  | y :: z :: r, p, h, x, hx => by
    by_cases hy : y = 255
    · subst hy
      by_cases hz : z = 0
      · subst hz
        rw [plainR_lead] at h
        obtain ⟨q, hq, rfl⟩ := Option.map_eq_some_iff.1 h
        rcases List.mem_cons.1 hx with rfl | hx
        · simp
        · have := plainR_mem r q hq x hx; simp [this]
      · rw [plainR_bad hz] at h; cases h
    · rw [plainR_other hy] at h
      obtain ⟨q, hq, rfl⟩ := Option.map_eq_some_iff.1 h
      rcases List.mem_cons.1 hx with rfl | hx
      · simp
      · have := plainR_mem (z :: r) q hq x hx
        exact List.mem_cons_of_mem _ this
theorem plain_bytes {bs : List Int} (h : Bytes bs) : Bytes (plainOut bs) := by
  cases hp : plainR bs with
  | none => rw [(plain_none hp).1]; intro x hx; simp at hx
  | some p => rw [(plain_some hp).1]; exact fun x hx => h x (plainR_mem bs p hp x hx)
theorem plain_length (bs : List Int) : (plainOut bs).length ≤ bs.length := by
  cases hp : plainR bs with
  | none => rw [(plain_none hp).1]; simp
  | some p =>
    have := length_le_stuffB p
    rw [stuffB_plainR bs p hp] at this
    rw [(plain_some hp).1]; exact this
theorem words_pf {cs syms : List Int} (hcs : cs.length = 16) (h : checkErr cs syms = 0) : PF (outWords cs syms) ∧ ∀ t ∈ outWords cs syms, 0 ≤ t.1 ∧ t.1 ≤ 255 := by
  obtain ⟨l, hf, how, hll⟩ := fine_of h
  rw [how]
  exact ⟨hf.pf hcs, fun t ht => (hf.word hcs ht).1⟩
set_option maxRecDepth 100000 in
set_option maxHeartbeats 8000000 in
theorem segDecode_any (cs syms : List Int) (A : Option Addr) (c : Nat) (cs2 syms2 : List Int) (A2 : Option Addr) (c2 G : Nat) (bs : List Int) (A3 : Option Addr) (c3 : Nat) (n : Int) (w : World)
    (hcs : cs.length = 16) (hn : syms.length ≤ maxLen) (hb : ∀ x ∈ cs, -9223372036854775808 ≤ x ∧ x ≤ 9223372036854775807) (hs : Seen w G A (ints .i64 syms))
    (hcs2 : cs2.length = 16) (hn2 : syms2.length ≤ maxLen) (hb2 : ∀ x ∈ cs2, -9223372036854775808 ≤ x ∧ x ≤ 9223372036854775807) (hs2 : Seen w G A2 (ints .i64 syms2))
    (hs3 : Seen w G A3 (ints .u8 bs)) (hby : Bytes bs) (hl : bs.length ≤ 140737488355328) (hG : G ≤ w.heap.size) :
    Calls Try.prog 28 #[tabsV cs A syms.length c cs2 A2 syms2.length c2, .slice A3 bs.length c3, .int .i64 n] w fun e w' => ∃ v, e = .returned (.tuple #[v, .int .i64 (eDec cs syms cs2 syms2 bs n)]) ∧ Owns w.heap.size [blkRow v (oDec cs syms cs2 syms2 bs n)] w' ∧ Below w.heap.size w w' := by
  have h17 : (tabCells cs A syms.length c).length = 17 := tabCells_length hcs
  have h17b : (tabCells cs2 A2 syms2.length c2).length = 17 := tabCells_length hcs2
  have HC1 := veil (fun W h hG => symbols_any cs syms A c G W hcs hn hb h hG)
  have HC2 := veil (fun W h hG => symbols_any cs2 syms2 A2 c2 G W hcs2 hn2 hb2 h hG)
  have hb0 := below1 w (.cells (tabsCells cs A syms.length c cs2 A2 syms2.length c2).toArray 27)
  have hz0 : (w.alloc (.cells (tabsCells cs A syms.length c cs2 A2 syms2.length c2).toArray 27)).heap.size = w.heap.size + 1 := by simp
  have hr := range_new w (tabsCells cs A syms.length c cs2 A2 syms2.length c2) 27
  have hr1 := range_left hr
  have hr2 := range_right hr
  rw [h17] at hr2
  have HPl := veil (fun W h hG => plain_any A3 c3 G bs W h hG hl)
  have Hby := veil hby
  have Hcs := veil hcs
  have Hcs2 := veil hcs2
  obtain ⟨E, hE⟩ : ∃ E, E = eDec cs syms cs2 syms2 bs n := ⟨_, rfl⟩
  obtain ⟨O, hO⟩ : ∃ O, O = oDec cs syms cs2 syms2 bs n := ⟨_, rfl⟩
  rw [← hE, ← hO]
  have HOe : Hid (E ≠ 0 → O = []) := by show _ → _; intro h; rw [hO]; exact oDec_err (by rw [← hE]; exact h)
  have HE := veil hE
  have HO := veil hO
  have H17 := veil h17
  have H17b := veil h17b
  have Hl := veil hl
  clear hr h17 h17b hcs hcs2 hb hb2 hby hE hO hl
  unfold tabsV
  unfold tabV at HC1 HC2
  generalize tabsCells cs A syms.length c cs2 A2 syms2.length c2 = zs at *
  generalize tabCells cs A syms.length c = xs at *
  generalize tabCells cs2 A2 syms2.length c2 = ys at *
  go_enter Try.func28, Try.ntmps28
  go_wp2_with (first
    | (refine wpList_load_mid rfl 25 (.tmp 18) rfl w.heap.size 0 rfl xs _ hr1 Try.underlying25 rfl (by rw [H17.out]; exact info_tab) ?_)
    | fail)
  refine (HC1.out _ (hs.below hb0 hG) (by rw [hz0]; omega)).mono ?_
  rintro e w1 ⟨v1, rfl, hok1, hbad1, hb1⟩
  have hr2' := range_below hr2 hb1 (by rw [hz0]; omega)
  have hbw := hb0.trans (hb1.mono (by rw [hz0]; omega))
  have hz1 := hb1.size
  rw [hz0] at hz1
  clear hr1 hr2 hb0 HC1
  by_cases h0 : checkErr cs syms = 0
  · obtain ⟨b1, rfl, hb1l, HM1⟩ := hok1 h0
    rw [h0]
    rw [hz0] at hb1l
    have H0 := veil h0
    have HM1 := veil HM1
    have hb1z := HM1.out.lt
    clear hok1 hbad1 h0 hb1
    go_wp2_with (first
      | (refine wpList_load_mid rfl 25 (.tmp 27) rfl w.heap.size 17 rfl ys _ (by simpa using hr2') Try.underlying25 rfl (by rw [H17b.out]; exact info_tab) ?_)
      | fail)
    refine (HC2.out _ (hs2.below hbw hG) (by omega)).mono ?_
    rintro e w2 ⟨v2, rfl, hok2, hbad2, hb2⟩
    have hbw2 := hbw.trans (hb2.mono hbw.size)
    have hz2 := hb2.size
    have HM12 := HM1.out.below hb2 hb1z
    clear hr2' HC2 HM1
    by_cases h0b : checkErr cs2 syms2 = 0
    · obtain ⟨b2, rfl, hb2l, HM2⟩ := hok2 h0b
      rw [h0b]
      have hb2z := HM2.lt
      have HT0 : Hid (eTs cs syms cs2 syms2 = 0) := by show _ = _; rw [eTs_two H0.out]; exact h0b
      have H0b := veil h0b
      have HM1 := veil HM12
      have HM2 := veil HM2
      clear hok2 hbad2 h0b HM12 hb2
      by_cases hrg : n < 0 ∨ 400 < n
      · have hE1 := eDec_n (bs := bs) HT0.out hrg
        rw [← HE.out] at hE1
        have hO1 := HOe.out (by rw [hE1]; decide)
        have HE1 := veil hE1
        have HO1 := veil hO1
        clear hE1 hO1
        by_cases hn0 : n < 0
        · clear hrg
          go_wp2
          go_ret2
          exact ⟨_, ret_two rfl (by rw [HE1.out]; rfl), by rw [HO1.out]; exact (Owns.nil hbw2.size).fresh _ _, hbw2⟩
        · have hn1 : 400 < n := by omega
          clear hrg
          go_wp2
          go_ret2
          exact ⟨_, ret_two rfl (by rw [HE1.out]; rfl), by rw [HO1.out]; exact (Owns.nil hbw2.size).fresh _ _, hbw2⟩
      · have Hrg := veil hrg
        obtain ⟨N, hN, hN400⟩ : ∃ N : Nat, n = (N : Int) ∧ N ≤ 400 := ⟨n.toNat, by omega, by omega⟩
        subst hN
        have hg1 : ¬ (N : Int) < 0 := by omega
        have hg2 : ¬ (400 : Int) < (N : Int) := by omega
        clear hrg
        go_wp2_with fail
        refine (HPl.out _ (hs3.below hbw2 hG) (by omega)).mono ?_
        rintro e w3 ⟨v3, rfl, HO3, hb3⟩
        have hz3 := hb3.size
        have hbw3 := hbw2.trans (hb3.mono hbw2.size)
        have HM13 := HM1.out.below hb3 (by omega)
        have HM23 := HM2.out.below hb3 hb2z
        clear hg1 hg2 HM1 HM2
        by_cases hp : plainErr bs = 0
        · rw [hp]
          obtain ⟨P, hP, hPby, hPl⟩ : ∃ P, P = plainOut bs ∧ Bytes P ∧ P.length ≤ 140737488355328 := ⟨_, rfl, plain_bytes Hby.out, by
            have := plain_length bs
            have := Hl.out
            omega⟩
          rw [← hP] at HO3
          obtain ⟨Ap, cp, e3, hsp, hcp, hmp⟩ := HO3.seen (List.mem_cons_self ..)
          simp only [byteRow, intRow] at e3 hsp hcp
          subst e3
          obtain ⟨fw, hfw⟩ : ∃ fw, fw = outWords cs syms := ⟨_, rfl⟩
          obtain ⟨rw_, hrw⟩ : ∃ rw_, rw_ = outWords cs2 syms2 := ⟨_, rfl⟩
          obtain ⟨hpf1, hsm1⟩ : PF fw ∧ ∀ t ∈ fw, 0 ≤ t.1 ∧ t.1 ≤ 255 := by rw [hfw]; exact words_pf Hcs.out H0.out
          obtain ⟨hpf2, hsm2⟩ : PF rw_ ∧ ∀ t ∈ rw_, 0 ≤ t.1 ∧ t.1 ≤ 255 := by rw [hrw]; exact words_pf Hcs2.out H0b.out
          rw [← hfw] at HM13
          rw [← hrw] at HM23
          have hSD : segD cs syms cs2 syms2 bs N = decS fw rw_ N 0 (unpack P) := by unfold segD; rw [hfw, hrw, hP]
          have HED : Hid ((segD cs syms cs2 syms2 bs N).1 ≠ 0 → E = (segD cs syms cs2 syms2 bs N).1) := fun h => HE.out.trans (eDec_dec HT0.out Hrg.out hp (by rw [Int.toNat_natCast]; exact h))
          have HEF : Hid ((segD cs syms cs2 syms2 bs N).1 = 0 → E = if fillB (segD cs syms cs2 syms2 bs N).2.2 = true then 0 else 4) := fun h => HE.out.trans (by rw [eDec_fill HT0.out Hrg.out hp (by rw [Int.toNat_natCast]; exact h), Int.toNat_natCast])
          have HOO : Hid (E = 0 → O = (segD cs syms cs2 syms2 bs N).2.1) := fun h => HO.out.trans (by unfold oDec; rw [if_pos (by rw [← HE.out]; exact h), Int.toNat_natCast])
          rw [hSD] at HED HEF HOO
          have hbX := below1 w3 (.cells #[.slice Ap P.length cp, .int .i64 0, .map (some b1), .map (some b2)] 110)
          have hTR0 : TR Ap cp w3.heap.size w3.heap.size P b1 syms.length fw b2 syms2.length rw_ (w3.alloc (.cells #[.slice Ap P.length cp, .int .i64 0, .map (some b1), .map (some b2)] 110)) (unpack P) :=
            ⟨0, ⟨Blk.new w3 [.slice Ap P.length cp, .int .i64 0, .map (some b1), .map (some b2)] 110, hsp.below hbX (Nat.le_refl _), hcp, hmp, hPl, by omega, Nat.le_refl _⟩, HM13.below hbX (by omega), HM23.below hbX (by omega), by omega, by omega, rfl⟩
          have HBk := veil (fun (before : Int) W s (h : TR Ap cp w3.heap.size w3.heap.size P b1 syms.length fw b2 syms2.length rw_ W s) (hb : -2047 ≤ before ∧ before ≤ 2047) => segBlock_any Ap cp w3.heap.size w3.heap.size P b1 syms.length fw b2 syms2.length rw_ before W s h hPby hpf1 hsm1 hpf2 hsm2 hb)
          have HFl := veil (fun at_ W (h : Rd Ap cp w3.heap.size w3.heap.size P (.map (some b1)) (.map (some b2)) at_ W) => onlyFill_any Ap cp w3.heap.size w3.heap.size P _ _ at_ W h hPby)
          have HTR0 := veil hTR0
          have hbwX := hbw3.trans (hbX.mono hbw3.size)
          have hzX : (w3.alloc (.cells #[.slice Ap P.length cp, .int .i64 0, .map (some b1), .map (some b2)] 110)).heap.size = w3.heap.size + 1 := by simp
          obtain ⟨cur, hmk, hcur⟩ := run_make_blocks N (by omega) (w3.alloc (.cells #[.slice Ap P.length cp, .int .i64 0, .map (some b1), .map (some b2)] 110))
          obtain ⟨g, hg⟩ : ∃ g, g = w3.heap.size := ⟨_, rfl⟩
          have Hcur := veil hcur
          have HDS0 := veil (DS.start fw rw_ N (unpack P))
          have hgw : w.heap.size ≤ g := by rw [hg]; omega
          have hb1g : b1 < g := by omega
          have hb2g : b2 < g := by omega
          clear HO3 hsp hpf1 hpf2 hsm1 hsm2 hfw hrw HM13 HM23 hSD hP hPby hbX hTR0 hp HPl hs hs2 hs3 hb3 hbw hbw2 hbw3 hcur
          go_wp2_with fail
          clear hmk
          have hrow0 := (Owns.start (w3.alloc (.cells #[.slice Ap P.length cp, .int .i64 0, .map (some b1), .map (some b2)] 110))).made 42 64 cur N (by unfold maxLen; omega) Hcur.out
          rw [hzX] at hrow0
          have hbY := below1 (w3.alloc (.cells #[.slice Ap P.length cp, .int .i64 0, .map (some b1), .map (some b2)] 110)) (.cells cur 42)
          have hTRY := HTR0.out.belowB hbY (by rw [hzX]; omega)
          have hbwY := hbwX.trans (hbY.mono hbwX.size)
          rw [← hg] at HBk HFl hTRY hrow0 ⊢
          have Hg := veil hg
          clear hg
          go_loopg [13, 14, 15, 16, 58] N (fun gk v13 v14 v15 v16 iv wr => ∃ (k : Nat) (acc : List (List Int)) (before : Int) (s : List Bool), gk = N - k ∧ k ≤ N ∧ iv = .int .i64 (k : Int) ∧ v14 = .int .i64 before ∧ Hid (DS fw rw_ N (unpack P) k acc before s) ∧ Hid (TR Ap cp g g P b1 syms.length fw b2 syms2.length rw_ wr s) ∧ Owns (g + 1) [blkRow v13 acc] wr ∧ Below w.heap.size w wr)
          case atStart => exact ⟨0, [], 0, unpack P, rfl, Nat.zero_le _, rfl, rfl, HDS0, hTRY, hrow0, hbwY⟩
          case round =>
            obtain ⟨k, acc, before, s, rfl, hk, rfl, rfl, HDS, HTR, hO, hbw⟩ := hrel
            have hTz := HTR.out.lt
            clear HDS0 hTRY hrow0 hbwY hbY
            by_cases hlt : k < N
            · have hltz : (k : Int) < (N : Int) := by omega
              have HB := veil (HBk.out before wr s HTR.out HDS.out.2.1)
              go_wp2_with fail
              refine HB.out.mono ?_
              rintro e w4 ⟨rfl, hg4, hs4⟩
              have hosl := outBk_length (step := stepS fw rw_) before s
              obtain ⟨D, hD⟩ : ∃ D, D = gB (stepS fw rw_) before s := ⟨_, rfl⟩
              have HD := veil hD
              rw [← hD] at hs4 hosl ⊢
              obtain ⟨er, her⟩ : ∃ er, er = D.1 := ⟨_, rfl⟩
              obtain ⟨os, hos⟩ : ∃ os, os = outBk D := ⟨_, rfl⟩
              have Her := veil her
              have Hos := veil hos
              rw [← her, ← hos]
              rw [← hos] at hosl
              have Hosl : Hid ((ints .i64 os).length = 64) := by show _ = _; rw [ints_length, hosl]
              have hone := ints_one (k := .i64) (l := os)
              have hz4 := hg4.size
              have hO4 := hO.kept hg4 (by omega)
              have hbw4 := hbw.grown hg4 hbw.size (fun j hj => by injection hj with hj; omega)
              have hown := fun j hj => ((hO4.head).lt j hj).2
              have hr5 := range_new w4 (ints .i64 os) 42
              have hb5 := below1 w4 (.cells (ints .i64 os).toArray 42)
              have hO5 := hO4.alloc (.cells (ints .i64 os).toArray 42)
              have hbw5 := hbw4.trans (hb5.mono hbw4.size)
              obtain ⟨zs5, hys⟩ : ∃ zs5, zs5 = ints .i64 os := ⟨_, rfl⟩
              have Hys := veil hys
              have hz0' : zs5[0]? = some (.int .i64 (os.headD 0)) := by
                rw [hys]
                match os, hosl with
                | o :: os, _ => rfl
              unfold blkV
              rw [← hys] at hr5 hb5 hO5 hbw5 Hosl hone ⊢
              clear hD her hos hys HB hO hbw
              by_cases he : er = 0
              · have he' : (gB (stepS fw rw_) before s).1 = 0 := by rw [← HD.out, ← Her.out]; exact he
                obtain ⟨_, _, ⟨s', hs'⟩, _⟩ := gB_in (fun _ _ _ h => stepS_ne h) he'
                have hnext := HDS.out.next hlt he' hs'
                rw [← HD.out, ← Hos.out] at hnext
                rw [← HD.out] at hs'
                have hTR4 := hs4 s' hs'
                have hTR5 := hTR4.belowB hb5 (by omega)
                have Hnext := veil hnext
                have HTR5 := veil hTR5
                have hacc : acc.length + 1 ≤ 1000000 := by have := HDS.out.1; omega
                have Hacc := veil hacc
                subst he
                clear he' hs' hs4 hnext hTR4 hTR5 HDS HTR hacc
                go_upto_region 21 with (first
                  | (refine wpList_store_new w4 rfl 42 (.tmp 15) (.tmp 64) rfl zeroB.toArray zs5 rfl rfl (info_blkn Hosl.out) (by rw [Hosl.out]; rfl) hone ?_)
                  | (refine wpList_load_mid rfl 42 (.tmp 15) rfl w4.heap.size 0 rfl zs5 _ hr5 Try.underlying42 rfl (info_blkn Hosl.out) ?_)
                  | (refine wpList_buildBlk rfl (.tmp 70) rfl zs5 rfl Hosl.out ?_)
                  | (refine wpList_ownB (w4.alloc (.cells zs5.toArray 42)) rfl (.tmp 69) (.tmp 71) rfl (g + 1) u13 acc [] rfl hO5 os zs5 Hys.out hosl rfl Hacc.out ?_; intro v' w6 hO6 hg6 hb6 hs6)
                  | fail)
                have hc5 := hr5 0 _ hz0'
                have hne6 : some w4.heap.size ≠ u13.ownBlock := fun e => by have := hown _ e.symm; omega
                have hc6 := reg_far hg6 hne6 (i := 0) (u := .int .i64 (os.headD 0)) (by rw [World.cell?_of_block (Below.heap_alloc _ _ _ (by simp))]; simpa using hc5)
                have HTR6 := veil (HTR5.out.belowB hb6 (by omega))
                have hbw6 := hbw5.trans (hb6.mono (by omega))
                clear hc5 hg6 hb6 hO5 hbw5 hr5 hb5 HTR5 hO4 hbw4 hg4 hz0'
                go_wp2_with fail
                go_roundg (N - (k + 1))
                case rel => exact ⟨k + 1, acc ++ [os], os.headD 0, s', rfl, by omega, by go_num, by rw [List.headD_eq_head?_getD], Hnext, HTR6, hO6, hbw6⟩
                case measure => omega
              · have he' : (gB (stepS fw rw_) before s).1 ≠ 0 := by rw [← HD.out, ← Her.out]; exact he
                have hq := HDS.out.err hlt he'
                rw [← HD.out, ← Her.out] at hq
                have hE1 : E = er := by rw [HED.out (by rw [hq]; exact he), hq]
                have hO1 := HOe.out (by rw [hE1]; exact he)
                have HE1 := veil hE1
                have HO1 := veil hO1
                have hbe : (er != 0) = true := by simpa using he
                clear he he' hq hE1 hO1 hs4
                go_wp2_with (first
                  | (refine wpList_store_new w4 rfl 42 (.tmp 15) (.tmp 64) rfl zeroB.toArray zs5 rfl rfl (info_blkn Hosl.out) (by rw [Hosl.out]; rfl) hone ?_)
                  | fail)
                go_ret2
                exact ⟨_, ret_two rfl (by rw [HE1.out]; rfl), by rw [HO1.out]; exact (Owns.nil hbw5.size).fresh _ _, hbw5⟩
            · obtain rfl : k = N := by omega
              have hq := HDS.out.done
              obtain ⟨at_, hR, _, _, _, _, hsa⟩ := HTR.out
              have HF := veil (HFl.out at_ wr hR)
              rw [← hsa] at HF
              have hE1 : E = if fillB s = true then 0 else 4 := by rw [HEF.out (by rw [hq]), hq]
              have HQ := veil hq
              have Hgw := veil hgw
              clear hR hsa hq HTR
              go_wp2_with fail
              refine HF.out.mono ?_
              rintro e w4 ⟨rfl, hg4⟩
              have hO4 := hO.kept hg4 (by omega)
              have hbw4 := hbw.grown hg4 hbw.size (fun j hj => by injection hj with hj; omega)
              cases hfl : fillB s with
              | true =>
                rw [hfl, if_pos rfl] at hE1
                have hO1 := HOO.out hE1
                rw [HQ.out] at hO1
                have HE1 := veil hE1
                have HO1 := veil hO1
                clear hE1 hO1 hfl HF
                go_wp2_with fail
                go_ret2
                exact ⟨_, ret_two rfl (by rw [HE1.out]; rfl), by rw [HO1.out]; exact hO4.down (by omega), hbw4⟩
              | false =>
                rw [hfl, if_neg (by decide)] at hE1
                have hO1 := HOe.out (by rw [hE1]; decide)
                have HE1 := veil hE1
                have HO1 := veil hO1
                clear hE1 hO1 hfl HF hO4 hO
                go_wp2_with fail
                go_ret2
                exact ⟨_, ret_two rfl (by rw [HE1.out]; rfl), by rw [HO1.out]; exact (Owns.nil hbw4.size).fresh _ _, hbw4⟩
        · have hE1 := eDec_plain (bs := bs) HT0.out Hrg.out hp
          have hne : (plainErr bs != 0) = true := by simpa using hp
          rw [← HE.out] at hE1
          have hO1 := HOe.out (by rw [hE1]; exact hp)
          have HO1 := veil hO1
          have HE1 := veil hE1
          obtain ⟨er, her⟩ : ∃ er, er = plainErr bs := ⟨_, rfl⟩
          rw [← her] at hne HE1 ⊢
          clear hE1 hO1 HO3 hp her
          go_wp2
          go_ret2
          exact ⟨_, ret_two rfl (by rw [HE1.out]; rfl), by rw [HO1.out]; exact (Owns.nil hbw3.size).fresh _ _, hbw3⟩
    · have hE1 := eDec_tab (cs := cs) (syms := syms) (cs2 := cs2) (syms2 := syms2) (bs := bs) (n := n) (by rw [eTs_two H0.out]; exact h0b)
      rw [eTs_two H0.out, ← HE.out] at hE1
      have hO1 := HOe.out (by rw [hE1]; exact h0b)
      have hne : (checkErr cs2 syms2 != 0) = true := by simpa using h0b
      have HO1 := veil hO1
      have HE1 := veil hE1
      obtain ⟨er, her⟩ : ∃ er, er = checkErr cs2 syms2 := ⟨_, rfl⟩
      rw [← her] at hne HE1 ⊢
      clear hE1 hO1 h0b her hok2 hbad2
      go_wp2
      go_ret2
      exact ⟨_, ret_two rfl (by rw [HE1.out]; rfl), by rw [HO1.out]; exact (Owns.nil hbw2.size).fresh _ _, hbw2⟩
  · have hE1 := eDec_tab (cs := cs) (syms := syms) (cs2 := cs2) (syms2 := syms2) (bs := bs) (n := n) (by rw [eTs_one h0]; exact h0)
    rw [eTs_one h0, ← HE.out] at hE1
    have hO1 := HOe.out (by rw [hE1]; exact h0)
    have hne : (checkErr cs syms != 0) = true := by simpa using h0
    have HO1 := veil hO1
    have HE1 := veil hE1
    obtain ⟨er, her⟩ : ∃ er, er = checkErr cs syms := ⟨_, rfl⟩
    rw [← her] at hne HE1 ⊢
    clear hE1 hO1 h0 her hok1 hbad1
    go_wp2
    go_ret2
    exact ⟨_, ret_two rfl (by rw [HE1.out]; rfl), by rw [HO1.out]; exact (Owns.nil hbw.size).fresh _ _, hbw⟩
end Go.Proofs.Ytddkhkpdbjjboaa

/- Segments in numbers: what Encode, Decode and Mend of scan answer. -/
namespace Go.Proofs.Ytddkhkpdbjjboaa
set_option linter.unusedVariables false
set_option linter.unusedSimpArgs false
set_option maxRecDepth 100000

section
variable (cs syms cs2 syms2 : List Int)
/-- What Decode and Mend ask ahead of the segments. -/
def eHead (bs : List Int) (n every : Int) : Int :=
  if every < 0 ∨ 100 < every ∨ n < 0 ∨ 400 < n then 1 else if eTs cs syms cs2 syms2 ≠ 0 then eTs cs syms cs2 syms2 else splitErr bs
/-- Are these the marks that are awaited? -/
def marksB (ms : List Int) : Bool := (ms.zipIdx).all fun x => decide (x.1 = 208 + ((x.2 % 8 : Nat) : Int))
def eSegs (bs : List Int) (n every : Int) : Int := firstE (((splitP bs).zip (partsN n.toNat every.toNat)).map fun x => eDec cs syms cs2 syms2 x.1 x.2)
def eScD (bs : List Int) (n every : Int) : Int :=
  if eHead cs syms cs2 syms2 bs n every ≠ 0 then eHead cs syms cs2 syms2 bs n every
  else if (partsN n.toNat every.toNat).length ≠ (splitP bs).length then 4 else if marksB (splitM bs) = false then 6 else eSegs cs syms cs2 syms2 bs n every
def oScD (bs : List Int) (n every : Int) : List (List Int) :=
  if eScD cs syms cs2 syms2 bs n every = 0 then (((splitP bs).zip (partsN n.toNat every.toNat)).map fun x => oDec cs syms cs2 syms2 x.1 x.2).flatten else []
/-- Mend: the blocks of segment k, and whether it is lost. -/
def goodM (ps : List (List Int)) (k m : Nat) : Bool := match ps[k]? with | some p => decide (eDec cs syms cs2 syms2 p m = 0) | none => false
def blkM (ps : List (List Int)) (k m : Nat) : List (List Int) := if goodM cs syms cs2 syms2 ps k m = true then oDec cs syms cs2 syms2 (ps.getD k []) m else List.replicate m zero64
def mendO (ps : List (List Int)) (ns : List Nat) : List (List Int) := (ns.zipIdx.map fun x => blkM cs syms cs2 syms2 ps x.2 x.1).flatten
def mendB (ps : List (List Int)) (ns : List Nat) : List Int := (ns.zipIdx.filter fun x => !goodM cs syms cs2 syms2 ps x.2 x.1).map fun x => (x.2 : Int)
def oMend (bs : List Int) (n every : Int) : List (List Int) := if eHead cs syms cs2 syms2 bs n every = 0 then mendO cs syms cs2 syms2 (splitP bs) (partsN n.toNat every.toNat) else []
def bMend (bs : List Int) (n every : Int) : List Int := if eHead cs syms cs2 syms2 bs n every = 0 then mendB cs syms cs2 syms2 (splitP bs) (partsN n.toNat every.toNat) else []
end
end Go.Proofs.Ytddkhkpdbjjboaa

/- How long tokens are as bits; what tokens blocks have. -/
namespace Go.Proofs.Ytddkhkpdbjjboaa
open Go.RowKit
set_option linter.unusedVariables false
set_option linter.unusedSimpArgs false
set_option maxRecDepth 100000

end Go.Proofs.Ytddkhkpdbjjboaa

/- What Encode makes: no marks, and not too long. -/
namespace Go.Proofs.Ytddkhkpdbjjboaa
open Go.RowKit
set_option linter.unusedVariables false
set_option linter.unusedSimpArgs false
set_option maxRecDepth 100000

end Go.Proofs.Ytddkhkpdbjjboaa

/- Segments encoded, in numbers: errors and lengths. -/
namespace Go.Proofs.Ytddkhkpdbjjboaa
open Go.RowKit
set_option linter.unusedVariables false
set_option linter.unusedSimpArgs false
set_option maxRecDepth 100000

section
variable {cs syms cs2 syms2 : List Int} {L : List (List Int)} {every : Int}
end
end Go.Proofs.Ytddkhkpdbjjboaa
