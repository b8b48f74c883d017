/- Texts shared by the claims of this seat, in one. -/
import Derived.Test.YtddkhkpdbjjboaaGreatBd7
import Derived.Test.YtddkhkpdbjjboaaGreatBd14
import Derived.Test.YtddkhkpdbjjboaaGreatBd10
import Derived.Deep.Cut
import Derived.Test.YtddkhkpdbjjboaaGreatBd5
import Derived.Test.YtddkhkpdbjjboaaGreatBd3
import Derived.Lib.Strings
import Derived.Lib.Walk
import Derived.Lib.Bytealg
import Derived.Test.YtddkhkpdbjjboaaGreatBd11
import Derived.Test.YtddkhkpdbjjboaaGreatBd8
/- The reference's BlockOf, whatever its source: its contract. -/
namespace Go.Proofs.YtddkhkpdbjjboaaGreat
open Go.RowKit
set_option linter.unusedVariables false
set_option linter.unusedSimpArgs false
set_option maxRecDepth 100000

def outG {σ : Type} (D : Int × List Int × List (Int × Int × Int) × Option σ) : List Int := if D.1 = 0 then fromL D.2.1 else zero64
theorem below_set {B b k : Nat} {w : World} {v : Value} (h : B ≤ b) (hB : B ≤ w.heap.size) : Below B w (w.setCell ⟨b, k, none⟩ v) := (Below.refl _ _).grown (grown_setCell w b k v) hB (fun j hj => by injection hj with hj; omega)
theorem fit_eB {t : Int × Int × Int} (h : fitT t = true) : eB t.2.1 t.2.2 = 0 ∧ oB t.2.1 t.2.2 = numT t := by
  have h2 : 0 ≤ t.2.1 ∧ t.2.1 ≤ 12 ∧ 0 ≤ t.2.2 ∧ t.2.2 < pw t.2.1.toNat := by unfold fitT at h; simpa using h
  exact ⟨if_pos h2, if_pos h2⟩
theorem fit_not {t : Int × Int × Int} (h : fitT t = false) : eB t.2.1 t.2.2 = 1 ∧ oB t.2.1 t.2.2 = 0 := by
  have h2 : ¬ (0 ≤ t.2.1 ∧ t.2.1 ≤ 12 ∧ 0 ≤ t.2.2 ∧ t.2.2 < pw t.2.1.toNat) := by unfold fitT at h; simpa using h
  exact ⟨if_neg h2, if_neg h2⟩
/-- What the loop keeps. -/
structure BLoop {σ : Type} (step : Bool → σ → Int ⊕ ((Int × Int × Int) × σ)) (R : World → σ → Prop) (before : Int) (g : Nat) (w : World) (D : Int × List Int × List (Int × Int × Int) × Option σ) (k : Nat) (pre : List Int) (all : List (Int × Int × Int)) (s1 : σ) (v : Value) (wr : World) : Prop where
  le : k ≤ 64
  len : pre.length = k
  few : all.length ≤ k
  own : Owns (w.heap.size + 2) [tokRow v all] wr
  res : Blk wr w.heap.size zeroB 37
  num : Blk wr (w.heap.size + 1) (ints .i64 (pre ++ List.replicate (64 - k) 0)) 37
  src : R wr s1
  kept : w.grownBy wr (some g)
  ins : ∀ z ∈ pre, -2047 ≤ z ∧ z ≤ 2047
  told : (k = 0 ∧ D = gB step before s1 ∧ all = []) ∨ (0 < k ∧ D = finG before (joinG pre all (gR step (64 - k) s1)))
/-- Two blocks of zeros just laid. -/
theorem box2_is (w : World) : Below w.heap.size w ((w.alloc (.cells zeroB.toArray 37)).alloc (.cells zeroB.toArray 37)) ∧ Blk ((w.alloc (.cells zeroB.toArray 37)).alloc (.cells zeroB.toArray 37)) w.heap.size zeroB 37 ∧ Blk ((w.alloc (.cells zeroB.toArray 37)).alloc (.cells zeroB.toArray 37)) (w.heap.size + 1) zeroB 37 ∧ ((w.alloc (.cells zeroB.toArray 37)).alloc (.cells zeroB.toArray 37)).heap.size = w.heap.size + 2 := by
  have h2 := Blk.new (w.alloc (.cells zeroB.toArray 37)) zeroB 37
  rw [World.size_alloc] at h2
  exact ⟨below2 _ _ _, (Blk.new w zeroB 37).below (below1 _ _) (by simp), h2, by simp⟩
/-- The way out with an error. -/
theorem blockOf_err {σ : Type} {R : World → σ → Prop} {w w5 : World} {g : Nat} {D : Int × List Int × List (Int × Int × Int) × Option σ} {er : Int} {a : Act} (hd : D = (er, [], [], none)) (hne : er ≠ 0)
    (h4 : a.tmps.getD 4 undef = .pointer (some ⟨w.heap.size, 0, none⟩)) (h5 : a.tmps.getD 5 undef = .int .i64 0) (h6 : a.tmps.getD 6 undef = .int .i64 er) (hdf : a.defers = [])
    (HB : Blk w5 w.heap.size zeroB 37) (hk : w.grownBy w5 (some g)) :
    bodyPost Tryz.prog Tryz.f34 (fun e w' => e = .returned (.tuple #[blkV (outG D), .int .i64 (D.2.2.1.length : Nat), .int .i64 D.1]) ∧ w.grownBy w' (some g) ∧ ∀ s', D.2.2.2 = some s' → R w' s') .ret a w5 := by
  subst hd
  have e : outG ((er, [], [], none) : Int × List Int × List (Int × Int × Int) × Option σ) = zero64 := if_neg hne
  rw [e]
  exact bodyPost_ret (results_row_tmp2 rfl _ _ w.heap.size 37 zeroB.toArray (0, 0) _ (.int .i64 0) (.int .i64 er) h4 h5 h6 HB Tryz.underlying37 rfl (by simp only [List.size_toArray]; exact info_blkn zeroB_length)) hdf ⟨rfl, hk, fun s' h => by cases h⟩
/-- The way out with a block. -/
theorem blockOf_ok {σ : Type} {R : World → σ → Prop} {w w5 : World} {g : Nat} {D : Int × List Int × List (Int × Int × Int) × Option σ} {zs : List Int} {all : List (Int × Int × Int)} {s : σ} {a : Act} (hd : D = (0, zs, all, some s))
    (HB : Blk w5 w.heap.size (ints .i64 (fromL zs)) 37) (hl : (ints .i64 (fromL zs)).length = 64)
    (h4 : a.tmps.getD 4 undef = .pointer (some ⟨w.heap.size, 0, none⟩)) (h5 : a.tmps.getD 5 undef = .int .i64 (all.length : Nat)) (h6 : a.tmps.getD 6 undef = .int .i64 0) (hdf : a.defers = [])
    (hk : w.grownBy w5 (some g)) (hR : R w5 s) :
    bodyPost Tryz.prog Tryz.f34 (fun e w' => e = .returned (.tuple #[blkV (outG D), .int .i64 (D.2.2.1.length : Nat), .int .i64 D.1]) ∧ w.grownBy w' (some g) ∧ ∀ s', D.2.2.2 = some s' → R w' s') .ret a w5 := by
  subst hd
  have e : outG ((0, zs, all, some s) : Int × List Int × List (Int × Int × Int) × Option σ) = fromL zs := if_pos rfl
  rw [e]
  exact bodyPost_ret (results_row_tmp2 rfl _ _ w.heap.size 37 (ints .i64 (fromL zs)).toArray (0, 0) _ (.int .i64 (all.length : Nat)) (.int .i64 0) h4 h5 h6 HB Tryz.underlying37 rfl (by simp only [List.size_toArray]; exact info_blkn hl)) hdf ⟨rfl, hk, fun s' h => by injection h with h; rw [← h]; exact hR⟩
/-- The cells of a token that was laid alone. -/
theorem lit_cells {w : World} {B n : Nat} {v : Value} {all : List (Int × Int × Int)} {p0 p1 p2 : Int} (h : Owns B [tokRow v all, tokRow (.slice (some ⟨n, 0, none⟩) 1 1) [(p0, p1, p2)]] w) :
    w.cell? ⟨n, 0, none⟩ = some (.int .i64 p0) ∧ w.cell? ⟨n, 1, none⟩ = some (.int .i64 p1) ∧ w.cell? ⟨n, 2, none⟩ = some (.int .i64 p2) := by
  obtain ⟨A, c, e, hs, _, _⟩ := h.seen (List.mem_cons_of_mem _ (List.mem_cons_self ..))
  simp only [tokRow, Value.slice.injEq] at e
  obtain ⟨rfl, _, _⟩ := e
  obtain ⟨g, o, s, m, q, e1, _, e2, c0, c1, c2⟩ := hs.tok (k := 0) (by simp)
  obtain ⟨rfl, rfl⟩ : n = g ∧ 0 = o := by simpa using e1
  obtain ⟨rfl, rfl, rfl⟩ : p0 = s ∧ p1 = m ∧ p2 = q := by simpa using e2
  exact ⟨c0, c1, c2⟩
set_option maxHeartbeats 8000000 in
set_option maxRecDepth 100000 in
theorem refBlockOf_any {σ : Type} (step : Bool → σ → Int ⊕ ((Int × Int × Int) × σ)) (R : World → σ → Prop) (f : FuncId) (caps : Array Value) (g : Nat) (before : Int) (s : σ) (w : World)
    (hE : Enters Tryz.prog f) (hb : -2047 ≤ before ∧ before ≤ 2047) (hg : g < w.heap.size) (hR : R w s)
    (hkeep : ∀ W W' s, R W s → Below w.heap.size W W' → R W' s) (hne : ∀ b s e, step b s = .inl e → e ≠ 0)
    (hnext : ∀ first s W, w.heap.size ≤ W.heap.size → R W s → Calls Tryz.prog f (#[.bool first] ++ caps) W fun e W' => NextPost R g W (step first s) e W') :
    Calls Tryz.prog 34 #[.int .i64 before, .func (.func f) #[] caps] w fun e w' =>
      e = .returned (.tuple #[blkV (outG (gB step before s)), .int .i64 ((gB step before s).2.2.1.length : Nat), .int .i64 (gB step before s).1]) ∧ w.grownBy w' (some g) ∧ ∀ s', (gB step before s).2.2.2 = some s' → R w' s' := by
  obtain ⟨D, hD⟩ : ∃ D, D = gB step before s := ⟨_, rfl⟩
  rw [← hD]
  obtain ⟨hb0, HB0, HB1, hz0⟩ := box2_is w
  have HL0 : BLoop step R before g w D 0 [] [] s (.slice none 0 0) ((w.alloc (.cells zeroB.toArray 37)).alloc (.cells zeroB.toArray 37)) :=
    ⟨by omega, rfl, Nat.le_refl _, (Owns.nil (by omega)).fresh _ _, HB0, HB1, hkeep _ _ _ hR hb0, grown_below (World.grownBy.refl _ _) hb0 (Nat.le_refl _), by simp, .inl ⟨rfl, hD, rfl⟩⟩
  have HL := veil HL0
  have HK := veil hkeep
  have HN := veil hnext
  have HNE := veil hne
  clear HL0 HB0 HB1 hb0 hz0 hD hR hkeep hnext hne
  have hzl := veil zeroB_length
  have hzone := ints_one (k := .i64) (l := List.replicate 64 0)
  go_enter Tryz.func34, Tryz.ntmps34
  go_wp2_with fail
  go_loopg [7, 9] 64 (fun gk v iv wr => ∃ (k : Nat) (pre : List Int) (all : List (Int × Int × Int)) (s1 : σ), gk = 64 - k ∧ iv = .int .i64 (k : Int) ∧ Hid (BLoop step R before g w D k pre all s1 v wr))
  case atStart => exact ⟨0, [], [], s, rfl, rfl, HL⟩
  case round =>
    clear HL
    obtain ⟨k, pre, all, s1, rfl, rfl, HL⟩ := hrel
    have hsz : w.heap.size + 2 ≤ wr.heap.size := HL.out.own.base
    have hk64 := HL.out.le
    by_cases hlt : k < 64
    · have hltz : (k : Int) < 64 := by omega
      obtain ⟨bf, hbf⟩ : ∃ bf : Bool, ((k : Int) == 0) = bf := ⟨_, rfl⟩
      have HC := veil (HN.out bf s1 wr (by omega) HL.out.src)
      cases hst : step bf s1 with
      | inl er =>
        rw [hst] at HC
        simp only [NextPost] at HC
        have hner := HNE.out _ _ _ hst
        have hbe : (er != 0) = true := by simpa using hner
        have HDe : Hid (D = (er, [], [], none)) := by
          show _ = _
          rcases HL.out.told with ⟨h1, h2, _⟩ | ⟨h1, h2⟩
          · subst h1
            obtain rfl : bf = true := by rw [← hbf]; rfl
            rw [h2, gB_none hst]
          · obtain rfl : bf = false := by rw [← hbf]; simp; omega
            rw [h2, joinG_none _ _ (by omega) hner hst]; unfold finG; rw [if_neg hner]
        have HNE2 := veil hner
        clear hner hst
        go_wp2_with fail
        rw [hE, Oper.upon_enter]
        refine HC.out.mono ?_
        rintro e w2 ⟨rfl, hgr⟩
        have HB4 := HL.out.res.kept hgr (by simp; omega)
        have hkw := HL.out.kept.trans hgr
        have HB5 := HB4.below (below1 w2 (.cells #[.int .i64 0, .int .i64 0, .int .i64 0] 73)) (by have := hgr.size; omega)
        have hkw2 := grown_below hkw (below1 w2 (.cells #[.int .i64 0, .int .i64 0, .int .i64 0] 73)) hkw.size
        have HZ := veil hzl.out
        have HB6 := veil HB5
        have HK6 := veil hkw2
        clear HB4 hkw HB5 hkw2 hgr
        simp only [tokV]
        go_wp2_with (first
          | (refine wpList_store_blk (w2.alloc (.cells #[.int .i64 0, .int .i64 0, .int .i64 0] 73)) rfl 37 (.tmp 4) (.tmp 27) rfl w.heap.size zeroB zeroB 37 HB6.out rfl rfl (info_blkn HZ.out) rfl hzone ?_; intro w5 HB7 hg7)
          | fail)
        exact blockOf_err HDe.out (HNE2.out) rfl rfl rfl rfl HB7 (grown_grown HK6.out hg7 (Nat.le_refl _))
      | inr p =>
        obtain ⟨⟨p0, p1, p2⟩, s2⟩ := p
        rw [hst] at HC
        simp only [NextPost] at HC
        have HST := veil hst
        have HSB := veil (fun W => refBack_any p1 p2 W)
        have Hall : Hid (all.length + 1 ≤ 1099511627776) := by have := HL.out.few; show _ ≤ _; omega
        clear hst
        go_wp2_with fail
        rw [hE, Oper.upon_enter]
        refine HC.out.mono ?_
        rintro e w2 ⟨rfl, hgr, hR2⟩
        have hz2 := hgr.size
        have hbx := below1 w2 (.cells #[.int .i64 p0, .int .i64 p1, .int .i64 p2] 73)
        have HO3 := ((HL.out.own.kept hgr (by omega)).call hbx (own_lit (Nat.le_refl w2.heap.size) p0 p1 p2)).swap
        have HB0a := (HL.out.res.kept hgr (by simp; omega)).below hbx (by omega)
        have HB1a := (HL.out.num.kept hgr (by simp; omega)).below hbx (by omega)
        have hkwa := grown_below (HL.out.kept.trans hgr) hbx (by omega)
        have hRxa := HK.out _ _ _ hR2 (hbx.mono (by omega))
        have hz3 : (w2.alloc (.cells #[.int .i64 p0, .int .i64 p1, .int .i64 p2] 73)).heap.size = w2.heap.size + 1 := by simp
        clear HC hgr hR2 hbx
        simp only [tokV]
        go_wp2_with (first
          | (refine wpList_ownKn (w2.alloc (.cells #[.int .i64 p0, .int .i64 p1, .int .i64 p2] 73)) (w2.heap.size + 1) hz3 rfl (.tmp 29) (.tmp 31) rfl (w.heap.size + 2) u7 all [tokRow (.slice (some ⟨w2.heap.size, 0, none⟩) 1 1) [(p0, p1, p2)]] rfl HO3 p0 p1 p2 rfl Hall.out ?_; intro v' w3 HO4 hb3 hs3; obtain ⟨c0, c1, c2⟩ := lit_cells HO4)
          | fail)
        refine (HSB.out _).mono ?_
        rintro e w4 ⟨rfl, hb4⟩
        have hz4 := hb4.size
        have HO5 := HO4.below hb4
        clear c0 c1 c2
        obtain ⟨c0, c1, c2⟩ := lit_cells HO5
        have hb34 := hb3.trans (hb4.mono (by omega))
        have HB0 := HB0a.below hb34 (by omega)
        have HB1 := HB1a.below hb34 (by omega)
        have hkw := grown_below hkwa hb34 (by omega)
        have hRx := HK.out _ _ _ hRxa (hb34.mono (by omega))
        have hw4 : w.heap.size + 2 ≤ w4.heap.size := HO5.base
        clear HO4 HO3 hb3 hb4 hb34 hz3 hs3 HSB Hall hz2 hz4 HB0a HB1a hkwa hRxa
        cases hft : fitT (p0, p1, p2) with
        | false =>
          obtain ⟨e1, e2⟩ := fit_not hft
          simp only [] at e1 e2
          rw [e1, e2]
          have HD4 : Hid (D = (4, [], [], none)) := by
            show _ = _
            rcases HL.out.told with ⟨h1, h2, _⟩ | ⟨h1, h2⟩
            · subst h1
              obtain rfl : bf = true := by rw [← hbf]; rfl
              rw [h2, gB_bad HST.out (fun h => by rw [h.1] at hft; cases hft)]
            · obtain rfl : bf = false := by rw [← hbf]; simp; omega
              rw [h2, joinG_bad _ _ (by omega) HST.out (by unfold okT; rw [hft]; rfl)]; rfl
          clear e1 e2 hft HO5 HL HST
          have HB6 := veil HB0
          have HK6 := veil hkw
          clear HB0 hkw HB1 hRx c0 c1 c2
          go_wp2_with (first
            | (refine wpList_store_blk w4 rfl 37 (.tmp 4) (.tmp 43) rfl w.heap.size zeroB zeroB 37 HB6.out rfl rfl (info_blkn hzl.out) rfl hzone ?_; intro w5 HB7 hg7)
            | fail)
          exact blockOf_err HD4.out (by decide) rfl rfl rfl rfl HB7 (grown_grown HK6.out hg7 (Nat.le_refl _))
        | true =>
          obtain ⟨e1, e2⟩ := fit_eB hft
          simp only [] at e1 e2
          rw [e1, e2]
          have hNb : -4095 ≤ numT (p0, p1, p2) ∧ numT (p0, p1, p2) ≤ 4095 := by
            have h2 : 0 ≤ p1 ∧ p1 ≤ 12 ∧ 0 ≤ p2 ∧ p2 < pw p1.toNat := by unfold fitT at hft; simpa using hft
            have h3 := bk_in h2.2.2.1 h2.2.2.2
            have h4 := pw_mono (a := p1.toNat) (b := 12) (by omega)
            have h5 : pw 12 = 4096 := by decide
            unfold numT; simp only []; omega
          obtain ⟨N, hN⟩ : ∃ N, N = numT (p0, p1, p2) := ⟨_, rfl⟩
          rw [← hN] at hNb ⊢
          clear e1 e2
          obtain ⟨hN1, hN2⟩ := hNb
          rcases HL.out.told with ⟨h1, h2, h3⟩ | ⟨h1, h2⟩
          · -- the first token
            subst h1 h3
            obtain rfl : bf = true := by rw [← hbf]; rfl
            have hpre : pre = [] := List.length_eq_zero_iff.1 HL.out.len
            subst hpre
            by_cases h01 : p0 = p1
            · have hne01 : (p0 != p1) = false := by simpa using h01
              by_cases hin : -2047 ≤ before + N ∧ before + N ≤ 2047
              · have HOu := veil (out_no (before + N) (-2047) 2047 hin w4)
                have HD1 : Hid (D = finG before (joinG [before + N] [(p0, p1, p2)] (gR step 63 s2))) := by
                  show _ = _
                  rw [h2, gB_go HST.out ⟨hft, h01, by rw [← hN]; exact hin.1, by rw [← hN]; exact hin.2⟩, hN]
                have hcz := HB1.cell (i := 0) (v := .int .i64 0) rfl
                have hfz := HB1.frozen 0
                have HB1n := HB1.set 0 (.int .i64 (before + N))
                have hgs := grown_setCell w4 (w.heap.size + 1) 0 (.int .i64 (before + N))
                have HLn : Hid (BLoop step R before g w D 1 [before + N] ([] ++ [(p0, p1, p2)]) s2 v' (w4.setCell ⟨w.heap.size + 1, 0, none⟩ (.int .i64 (before + N)))) :=
                  ⟨by omega, rfl, by simp, (HO5.kept hgs (by omega)).swap.tail, HB0.kept hgs (by simp), HB1n, HK.out _ _ _ hRx (below_set (by omega) (by omega)), grown_grown hkw hgs (by omega), by simp; omega, .inr ⟨by omega, HD1.out⟩⟩
                clear HL HST HD1 HO5 HB0 HB1 HB1n hgs hRx hkw h2 h01 hft hN hin
                go_wp2_with fail
                refine HOu.out.mono ?_
                rintro e w5 ⟨rfl, rfl⟩
                go_wp2_with fail
                go_roundg (64 - 1)
                case rel => exact ⟨1, [before + N], _, s2, rfl, rfl, HLn⟩
                case measure => omega
              · have HOu := veil (out_yes (before + N) (-2047) 2047 (by omega) w4)
                have HD4 : Hid (D = (4, [], [], none)) := by
                  show _ = _
                  rw [h2, gB_bad HST.out (fun h => hin (by rw [hN]; exact ⟨h.2.2.1, h.2.2.2⟩))]
                have HB6 := veil HB0
                have HK6 := veil hkw
                clear HB0 hkw HB1 hRx HO5 HL HST hN
                clear h2 h01 hft hin
                go_wp2_with fail
                refine HOu.out.mono ?_
                rintro e w5 ⟨rfl, hw5⟩
                subst w5
                go_upto_region 14 with fail
                go_wp2_with (first
                  | (refine wpList_store_blk w4 rfl 37 (.tmp 4) (.tmp 57) rfl w.heap.size zeroB zeroB 37 HB6.out rfl rfl (info_blkn hzl.out) rfl hzone ?_; intro w5 HB7 hg7)
                  | fail)
                exact blockOf_err HD4.out (by decide) rfl rfl rfl rfl HB7 (grown_grown HK6.out hg7 (Nat.le_refl _))
            · have hne01 : (p0 != p1) = true := by simpa using h01
              have HD4 : Hid (D = (4, [], [], none)) := by
                show _ = _
                rw [h2, gB_bad HST.out (fun h => h01 h.2.1)]
              have HB6 := veil HB0
              have HK6 := veil hkw
              clear HB0 hkw HB1 hRx HO5 HL HST hN
              clear h2 h01 hft
              go_upto_region 14 with fail
              go_wp2_with (first
                | (refine wpList_store_blk w4 rfl 37 (.tmp 4) (.tmp 57) rfl w.heap.size zeroB zeroB 37 HB6.out rfl rfl (info_blkn hzl.out) rfl hzone ?_; intro w5 HB7 hg7)
                | fail)
              exact blockOf_err HD4.out (by decide) rfl rfl rfl rfl HB7 (grown_grown HK6.out hg7 (Nat.le_refl _))
          · -- a later token
            obtain rfl : bf = false := by rw [← hbf]; simp; omega
            cases hok : okT (p0, p1, p2) with
            | false =>
              have HD4 : Hid (D = (4, [], [], none)) := by
                show _ = _
                rw [h2, joinG_bad _ _ (by omega) HST.out hok]; rfl
              have HB6 := veil HB0
              have HK6 := veil hkw
              clear HB0 hkw HB1 hRx HO5 HL HST hN
              clear h2
              by_cases ho : 0 ≤ p0 ∧ p0 ≤ 255
              · obtain ⟨ho1, ho2⟩ := ho
                have HOu := veil (out_no p0 0 255 ⟨ho1, ho2⟩ w4)
                by_cases hm : p0 % 16 = p1
                · have hmb : (p0 % 16 != p1) = false := by simpa using hm
                  by_cases h11 : 11 < p1
                  · clear hm hok hft
                    go_wp2_with fail
                    refine HOu.out.mono ?_
                    rintro e w5 ⟨rfl, hw5⟩
                    subst w5
                    go_upto_region 18 with fail
                    go_wp2_with (first
                      | (refine wpList_store_blk w4 rfl 37 (.tmp 4) (.tmp 93) rfl w.heap.size zeroB zeroB 37 HB6.out rfl rfl (info_blkn hzl.out) rfl hzone ?_; intro w5 HB7 hg7)
                      | fail)
                    exact blockOf_err HD4.out (by decide) rfl rfl rfl rfl HB7 (grown_grown HK6.out hg7 (Nat.le_refl _))
                  · have hlast : p1 = 0 ∧ p0 ≠ 0 ∧ p0 ≠ 240 := by
                      unfold okT at hok
                      rw [hft] at hok
                      simp only [Bool.true_and, decide_eq_false_iff_not] at hok
                      refine Classical.byContradiction fun hx => hok ⟨ho1, ho2, hm, by omega, fun hz => ?_⟩
                      refine Classical.byContradiction fun hy => hx ⟨hz, fun e => hy (.inl e), fun e => hy (.inr e)⟩
                    have hz1 : (p1 == 0) = true := by simpa using hlast.1
                    have hz2 : (p0 != 0) = true := by simpa using hlast.2.1
                    have hz3 : (p0 != 240) = true := by simpa using hlast.2.2
                    clear hm hok hft hlast
                    go_wp2_with fail
                    refine HOu.out.mono ?_
                    rintro e w5 ⟨rfl, hw5⟩
                    subst w5
                    go_upto_region 18 with fail
                    go_wp2_with (first
                      | (refine wpList_store_blk w4 rfl 37 (.tmp 4) (.tmp 93) rfl w.heap.size zeroB zeroB 37 HB6.out rfl rfl (info_blkn hzl.out) rfl hzone ?_; intro w5 HB7 hg7)
                      | fail)
                    exact blockOf_err HD4.out (by decide) rfl rfl rfl rfl HB7 (grown_grown HK6.out hg7 (Nat.le_refl _))
                · have hmb : (p0 % 16 != p1) = true := by simpa using hm
                  clear hm hok hft
                  go_wp2_with fail
                  refine HOu.out.mono ?_
                  rintro e w5 ⟨rfl, hw5⟩
                  subst w5
                  go_upto_region 18 with fail
                  go_wp2_with (first
                    | (refine wpList_store_blk w4 rfl 37 (.tmp 4) (.tmp 93) rfl w.heap.size zeroB zeroB 37 HB6.out rfl rfl (info_blkn hzl.out) rfl hzone ?_; intro w5 HB7 hg7)
                    | fail)
                  exact blockOf_err HD4.out (by decide) rfl rfl rfl rfl HB7 (grown_grown HK6.out hg7 (Nat.le_refl _))
              · have HOu := veil (out_yes p0 0 255 (by omega) w4)
                clear ho hok hft
                go_wp2_with fail
                refine HOu.out.mono ?_
                rintro e w5 ⟨rfl, hw5⟩
                subst w5
                go_upto_region 18 with fail
                go_wp2_with (first
                  | (refine wpList_store_blk w4 rfl 37 (.tmp 4) (.tmp 93) rfl w.heap.size zeroB zeroB 37 HB6.out rfl rfl (info_blkn hzl.out) rfl hzone ?_; intro w5 HB7 hg7)
                  | fail)
                exact blockOf_err HD4.out (by decide) rfl rfl rfl rfl HB7 (grown_grown HK6.out hg7 (Nat.le_refl _))
            | true =>
              have hok2 : 0 ≤ p0 ∧ p0 ≤ 255 ∧ p0 % 16 = p1 ∧ p1 ≤ 11 ∧ (p1 = 0 → p0 = 0 ∨ p0 = 240) := by
                unfold okT at hok
                rw [hft] at hok
                simp only [Bool.true_and, decide_eq_true_eq] at hok
                exact hok
              obtain ⟨ho1, ho2, hm, h11, hlast⟩ := hok2
              have HOu := veil (out_no p0 0 255 ⟨ho1, ho2⟩ w4)
              have hmb : (p0 % 16 != p1) = false := by simpa using hm
              by_cases hp0 : p0 = 0
              · -- the end
                have hp1 : p1 = 0 := by omega
                have HD : Hid (D = finG before (0, pre ++ List.replicate (64 - k) 0, all ++ [(p0, p1, p2)], some s2)) := by
                  show _ = _
                  rw [h2, joinG_end _ _ (by omega) HST.out hok hp0]
                have Hzl : Hid ((pre ++ List.replicate (64 - k) 0).length = 64) := by show _ = _; rw [List.length_append, List.length_replicate, HL.out.len]; omega
                have Hzin : Hid (∀ z ∈ (pre ++ List.replicate (64 - k) 0), -2047 ≤ z ∧ z ≤ 2047) := by
                  intro z hz
                  rcases List.mem_append.1 hz with hz | hz
                  · exact HL.out.ins z hz
                  · rw [(List.mem_replicate.1 hz).2]; omega
                have HAl : Hid ((all ++ [(p0, p1, p2)]).length ≤ 1099511627776) := by have := HL.out.few; show _ ≤ _; rw [List.length_append, List.length_singleton]; omega
                have HO := HO5.swap.tail
                have hR := hRx
                clear HL HST h2 hok hft hN HO5 hRx hlast hmb
                subst hp0
                subst hp1
                clear hm ho1 ho2 h11
                go_wp2_with fail
                refine HOu.out.mono ?_
                rintro e w5 ⟨rfl, hw5⟩
                subst w5
                go_upto_region 24 with fail
                obtain ⟨A7, c7, e7, _, _, _⟩ := HO.seen (List.mem_cons_self ..)
                simp only [tokRow] at e7
                subst e7
                have HF := veil (fun W' => refFrom_any (pre ++ List.replicate (64 - k) 0) W' Hzl.out)
                have HT := veil (fun W' => refTokens_any before (fromL (pre ++ List.replicate (64 - k) 0)) W' (fromL_length _))
                rw [oT_ok (eT_ok hb.1 hb.2 (inB_mem.2 fun z hz => Hzin.out z (fromL_mem Hzl.out hz))), eT_ok hb.1 hb.2 (inB_mem.2 fun z hz => Hzin.out z (fromL_mem Hzl.out hz)), to_from Hzl.out] at HT
                have HTl := veil (toks_len before Hzl.out)
                have HlZ : Hid ((ints .i64 (pre ++ List.replicate (64 - k) 0)).length = 64) := by show _ = _; rw [ints_length, Hzl.out]
                have HlY : Hid ((ints .i64 (fromL (pre ++ List.replicate (64 - k) 0))).length = 64) := by show _ = _; rw [ints_length, fromL_length]
                have honeY := ints_one (k := .i64) (l := fromL (pre ++ List.replicate (64 - k) 0))
                have hrZ := HB1.range
                obtain ⟨T, hT⟩ : ∃ T, T = toksZ before (pre ++ List.replicate (64 - k) 0) := ⟨_, rfl⟩
                rw [← hT] at HT HTl
                have HTe := veil hT
                obtain ⟨AL, hAL⟩ : ∃ AL, AL = (all ++ [(0, 0, p2)]) := ⟨_, rfl⟩
                rw [← hAL] at HO HD HAl
                have HALe := veil hAL
                obtain ⟨ZS, hZS⟩ : ∃ ZS, ZS = (pre ++ List.replicate (64 - k) 0) := ⟨_, rfl⟩
                rw [← hZS] at HD HF HT HlZ HlY honeY hrZ HTe
                unfold blkV at HF HT
                obtain ⟨xs, hxs⟩ : ∃ xs, xs = ints .i64 ZS := ⟨_, rfl⟩
                rw [← hxs] at HF HlZ hrZ
                obtain ⟨ys, hys⟩ : ∃ ys, ys = ints .i64 (fromL ZS) := ⟨_, rfl⟩
                rw [← hys] at HF HT HlY honeY
                have HYe := veil hys
                have HLE : Hid ((all ++ [(0, 0, p2)]).length = AL.length) := by show _ = _; rw [hAL]
                rw [HLE.out]
                clear hT hAL hZS hxs hys HB1
                go_wp2_with (first
                  | (refine wpList_load_mid rfl 37 (.tmp 8) rfl (w.heap.size + 1) 0 rfl xs _ hrZ Tryz.underlying37 rfl (info_blkn HlZ.out) ?_)
                  | fail)
                refine (HF.out _).mono ?_
                rintro e w5 ⟨rfl, hb5⟩
                have hz5 := hb5.size
                have hr5 := range_new w5 ys 37
                have hb6 := below1 w5 (.cells ys.toArray 37)
                have hz6 : (w5.alloc (.cells ys.toArray 37)).heap.size = w5.heap.size + 1 := by simp
                have HO6 := (HO.below hb5).below hb6
                have hbw6 := hb5.trans (hb6.mono hz5)
                clear hrZ
                go_wp2_with (first
                  | (refine wpList_store_new w5 rfl 37 (.tmp 13) (.tmp 111) rfl zeroB.toArray ys rfl rfl (info_blkn HlY.out) (by rw [HlY.out]; rfl) honeY ?_)
                  | (refine wpList_load_mid rfl 37 (.tmp 13) rfl w5.heap.size 0 rfl ys _ hr5 Tryz.underlying37 rfl (info_blkn HlY.out) ?_)
                  | fail)
                refine (HT.out _).mono ?_
                rintro e w7 ⟨v2, rfl, HO7, hb7⟩
                have HOb := HO6.below hb7
                have hz7 := hb7.size
                rw [hz6] at hz7
                obtain ⟨A2, c2', e2, hs2, _, _⟩ := HO7.seen (List.mem_cons_self ..)
                obtain ⟨A3, c3, e3, hs3, _, _⟩ := HOb.seen (List.mem_cons_self ..)
                simp only [tokRow] at e2 e3 hs2 hs3
                subst e2
                injection e3 with e3 e4 e5
                subst e3 e5
                have HEQ := veil (eqTok A2 A7 c2' c7 w7.heap.size T AL w7 hs2 hs3 (Nat.le_refl _) (by have := HTl.out; omega) HAl.out)
                have hbw7 := hbw6.trans (hb7.mono (by rw [hz6]; omega))
                have HB0b := HB0.below hbw7 (by omega)
                have hkw7 := grown_below hkw hbw7 (by omega)
                have hR7 := HK.out _ _ _ hR (hbw7.mono (by omega))
                have hr7 := range_below hr5 hb7 (by rw [hz6]; omega)
                clear hr5 hb6 HO6 hbw6 HO7 hb7 HOb hs2 hs3 e4 hbw7 HB0 hkw hR hb5 HO hz6
                go_wp2_with fail
                refine HEQ.out.mono ?_
                rintro e w8 ⟨rfl, hb8⟩
                have hz8 := hb8.size
                have HB8 := veil (HB0b.below hb8 (by omega))
                have hkw8 := veil (grown_below hkw7 hb8 (by omega))
                have hR8 := veil (HK.out _ _ _ hR7 (hb8.mono (by omega)))
                have hr8 := range_below hr7 hb8 (by omega)
                clear hb8 hr7 HB0b hkw7 hR7
                by_cases hTA : T = AL
                · rw [decide_eq_true hTA]
                  have HDf : Hid (D = (0, ZS, AL, some s2)) := by
                    show _ = _
                    rw [HD.out]; unfold finG; rw [if_pos rfl]; simp only []; rw [← HTe.out, if_pos hTA]
                  clear hTA HD
                  go_wp2_with (first
                    | (refine wpList_load_mid rfl 37 (.tmp 13) rfl w5.heap.size 0 rfl ys _ hr8 Tryz.underlying37 rfl (info_blkn HlY.out) ?_)
                    | (refine wpList_store_blk w8 rfl 37 (.tmp 4) (.tmp 123) rfl w.heap.size zeroB ys 37 HB8.out rfl rfl (info_blkn HlY.out) (by rw [HlY.out, hzl.out]) honeY ?_; intro w9 HB9 hg9)
                    | fail)
                  exact blockOf_ok HDf.out (by rw [← HYe.out]; exact HB9) (by rw [← HYe.out]; exact HlY.out) rfl rfl rfl rfl (grown_grown hkw8.out hg9 (Nat.le_refl _)) (HK.out _ _ _ hR8.out ((Below.refl _ _).grown hg9 (by omega) (fun j hj => by injection hj with hj; omega)))
                · rw [decide_eq_false hTA]
                  have HDf : Hid (D = (4, [], [], none)) := by
                    show _ = _
                    rw [HD.out]; unfold finG; rw [if_pos rfl]; simp only []; rw [← HTe.out, if_neg hTA]
                  clear hTA HD hr8
                  go_wp2_with (first
                    | (refine wpList_store_blk w8 rfl 37 (.tmp 4) (.tmp 122) rfl w.heap.size zeroB zeroB 37 HB8.out rfl rfl (info_blkn hzl.out) rfl hzone ?_; intro w9 HB9 hg9)
                    | fail)
                  exact blockOf_err HDf.out (by decide) rfl rfl rfl rfl HB9 (grown_grown hkw8.out hg9 (Nat.le_refl _))
              · -- a number
                obtain ⟨q, hq⟩ : ∃ q : Nat, p0 / 16 = (q : Int) := ⟨(p0 / 16).toNat, by omega⟩
                have hq15 : q ≤ 15 := by omega
                have hfar : farT (p0, p1, p2) = q + 1 := by unfold farT; simp only []; rw [hq]; rfl
                have hz2 : (p0 != 0) = true := by simpa using hp0
                have hz0 : (p0 == 0) = false := by simpa using hp0
                obtain ⟨b1, hb1⟩ : ∃ b1 : Bool, (p1 == 0) = b1 := ⟨_, rfl⟩
                have hz3 : b1 = true → (p0 != 240) = false := fun h => by
                  subst h
                  have : p1 = 0 := by simpa using hb1
                  rcases hlast this with h | h
                  · exact absurd h hp0
                  · simpa using h
                by_cases hfar64 : 64 < k + (q + 1)
                · have hgt : (64 : Int) < (k : Int) + ((q : Int) + 1) := by omega
                  have HD4 : Hid (D = (4, [], [], none)) := by
                    show _ = _
                    rw [h2, joinG_far _ _ (by omega) HST.out hok hp0 (by rw [hfar]; omega)]; rfl
                  have HB6 := veil HB0
                  have HK6 := veil hkw
                  clear HB0 hkw HB1 hRx HO5 HL HST hN h2 hok hft hlast hfar hp0 hm
                  cases b1
                  · clear hz3
                    go_wp2_with fail
                    refine HOu.out.mono ?_
                    rintro e w5 ⟨rfl, hw5⟩
                    subst w5
                    go_upto_region 22 with fail
                    go_wp2_with (first
                      | (refine wpList_store_blk w4 rfl 37 (.tmp 4) (.tmp 105) rfl w.heap.size zeroB zeroB 37 HB6.out rfl rfl (info_blkn hzl.out) rfl hzone ?_; intro w5 HB7 hg7)
                      | fail)
                    exact blockOf_err HD4.out (by decide) rfl rfl rfl rfl HB7 (grown_grown HK6.out hg7 (Nat.le_refl _))
                  · have hz4 := hz3 rfl
                    clear hz3
                    go_wp2_with fail
                    refine HOu.out.mono ?_
                    rintro e w5 ⟨rfl, hw5⟩
                    subst w5
                    go_upto_region 22 with fail
                    go_wp2_with (first
                      | (refine wpList_store_blk w4 rfl 37 (.tmp 4) (.tmp 105) rfl w.heap.size zeroB zeroB 37 HB6.out rfl rfl (info_blkn hzl.out) rfl hzone ?_; intro w5 HB7 hg7)
                      | fail)
                    exact blockOf_err HD4.out (by decide) rfl rfl rfl rfl HB7 (grown_grown HK6.out hg7 (Nat.le_refl _))
                · have hle : ¬ (64 : Int) < (k : Int) + ((q : Int) + 1) := by omega
                  have hidx : (k : Int) + ((q : Int) + 1) - 1 = ((k + q : Nat) : Int) := by omega
                  have hidl : ((k + q : Nat) : Int) < 64 := by omega
                  have HD1 : Hid (D = finG before (joinG (pre ++ (List.replicate q 0 ++ [N])) (all ++ [(p0, p1, p2)]) (gR step (64 - (k + q + 1)) s2))) := by
                    show _ = _
                    rw [h2, joinG_next _ _ HST.out hok hp0 (by rw [hfar]; omega), hfar, ← hN, show 64 - k - (q + 1) = 64 - (k + q + 1) by omega, Nat.add_sub_cancel]
                  have hNN : -2047 ≤ N ∧ N ≤ 2047 := by
                    have h2 : 0 ≤ p1 ∧ p1 ≤ 12 ∧ 0 ≤ p2 ∧ p2 < pw p1.toNat := by unfold fitT at hft; simpa using hft
                    have h3 := bk_in h2.2.2.1 h2.2.2.2
                    have h4 := pw_mono (a := p1.toNat) (b := 11) (by omega)
                    have h5 : pw 11 = 2048 := by decide
                    rw [hN]; unfold numT; simp only []; omega
                  have hlen := HL.out.len
                  obtain ⟨y, hy⟩ := some_at (xs := pre ++ List.replicate (64 - k) 0) (j := k + q) (by rw [List.length_append, List.length_replicate]; omega)
                  have hcz := HB1.cell (ints_at hy)
                  have hfz := HB1.frozen (k + q)
                  have HB1n := HB1.set (k + q) (.int .i64 N)
                  have hset : (ints .i64 (pre ++ List.replicate (64 - k) 0)).set (k + q) (.int .i64 N) = ints .i64 ((pre ++ (List.replicate q 0 ++ [N])) ++ List.replicate (64 - (k + q + 1)) 0) := by
                    rw [show (ints .i64 (pre ++ List.replicate (64 - k) 0)).set (k + q) (.int .i64 N) = ints .i64 ((pre ++ List.replicate (64 - k) 0).set (k + q) N) by simp [ints, List.map_set]]
                    congr 1
                    rw [← hlen]
                    rw [List.set_append_right _ _ (by omega), Nat.add_sub_cancel_left, List.append_assoc]
                    congr 1
                    rw [show 64 - pre.length = q + (1 + (64 - (pre.length + q + 1))) by omega, ← List.replicate_append_replicate, List.set_append_right _ _ (by simp), List.length_replicate, Nat.sub_self, Nat.add_comm 1, List.replicate_succ, List.set_cons_zero, List.append_assoc]
                    rfl
                  rw [hset] at HB1n
                  have hgs := grown_setCell w4 (w.heap.size + 1) (k + q) (.int .i64 N)
                  have HLn : Hid (BLoop step R before g w D (k + q + 1) (pre ++ (List.replicate q 0 ++ [N])) (all ++ [(p0, p1, p2)]) s2 v' (w4.setCell ⟨w.heap.size + 1, k + q, none⟩ (.int .i64 N))) :=
                    ⟨by omega, by simp [hlen]; omega, by have := HL.out.few; simp; omega, (HO5.kept hgs (by omega)).swap.tail, HB0.kept hgs (by simp), HB1n, HK.out _ _ _ hRx (below_set (by omega) (by omega)), grown_grown hkw hgs (by omega), (by
                      intro z hz
                      rcases List.mem_append.1 hz with hz | hz
                      · exact HL.out.ins z hz
                      · rcases List.mem_append.1 hz with hz | hz
                        · rw [(List.mem_replicate.1 hz).2]; omega
                        · rw [List.mem_singleton.1 hz]; exact hNN), .inr ⟨by omega, HD1.out⟩⟩
                  clear HL HST hN h2 hok hft hlast hfar hp0 hm HD1 hNN hlen hy HB1n hset hgs HB0 HB1 HO5 hRx hkw
                  cases b1
                  · clear hz3
                    go_wp2_with fail
                    refine HOu.out.mono ?_
                    rintro e w5 ⟨rfl, hw5⟩
                    subst w5
                    go_wp2_with fail
                    go_roundg (64 - (k + q + 1))
                    case rel => exact ⟨k + q + 1, pre ++ (List.replicate q 0 ++ [N]), all ++ [(p0, p1, p2)], s2, rfl, by go_num, HLn⟩
                    case measure => omega
                  · have hz4 := hz3 rfl
                    clear hz3
                    go_wp2_with fail
                    refine HOu.out.mono ?_
                    rintro e w5 ⟨rfl, hw5⟩
                    subst w5
                    go_wp2_with fail
                    go_roundg (64 - (k + q + 1))
                    case rel => exact ⟨k + q + 1, pre ++ (List.replicate q 0 ++ [N]), all ++ [(p0, p1, p2)], s2, rfl, by go_num, HLn⟩
                    case measure => omega
    · -- the loop's end
      obtain rfl : k = 64 := by omega
      have HD : Hid (D = finG before (0, pre, all, some s1)) := by
        show _ = _
        rcases HL.out.told with ⟨h1, _, _⟩ | ⟨_, h2⟩
        · omega
        · rw [h2, show 64 - 64 = 0 from rfl, joinG_all]
      have Hzl : Hid (pre.length = 64) := HL.out.len
      have Hzin : Hid (∀ z ∈ pre, -2047 ≤ z ∧ z ≤ 2047) := HL.out.ins
      have HAl : Hid (all.length ≤ 1099511627776) := by have := HL.out.few; show _ ≤ _; omega
      have HO := HL.out.own
      have hR := HL.out.src
      have HB0 := HL.out.res
      have HB1 := HL.out.num
      have hkw := HL.out.kept
      have hw4 : w.heap.size + 2 ≤ wr.heap.size := HO.base
      rw [show 64 - 64 = 0 from rfl, List.replicate_zero, List.append_nil] at HB1
      clear HL
      go_upto_region 24 with fail
      obtain ⟨A7, c7, e7, _, _, _⟩ := HO.seen (List.mem_cons_self ..)
      simp only [tokRow] at e7
      subst e7
      have HF := veil (fun W' => refFrom_any pre W' Hzl.out)
      have HT := veil (fun W' => refTokens_any before (fromL pre) W' (fromL_length _))
      rw [oT_ok (eT_ok hb.1 hb.2 (inB_mem.2 fun z hz => Hzin.out z (fromL_mem Hzl.out hz))), eT_ok hb.1 hb.2 (inB_mem.2 fun z hz => Hzin.out z (fromL_mem Hzl.out hz)), to_from Hzl.out] at HT
      have HTl := veil (toks_len before Hzl.out)
      have HlZ : Hid ((ints .i64 pre).length = 64) := by show _ = _; rw [ints_length, Hzl.out]
      have HlY : Hid ((ints .i64 (fromL pre)).length = 64) := by show _ = _; rw [ints_length, fromL_length]
      have honeY := ints_one (k := .i64) (l := fromL pre)
      have hrZ := HB1.range
      obtain ⟨T, hT⟩ : ∃ T, T = toksZ before pre := ⟨_, rfl⟩
      rw [← hT] at HT HTl
      have HTe := veil hT
      obtain ⟨AL, hAL⟩ : ∃ AL, AL = all := ⟨_, rfl⟩
      rw [← hAL] at HO HD HAl
      have HALe := veil hAL
      obtain ⟨ZS, hZS⟩ : ∃ ZS, ZS = pre := ⟨_, rfl⟩
      rw [← hZS] at HD HF HT HlZ HlY honeY hrZ HTe
      unfold blkV at HF HT
      obtain ⟨xs, hxs⟩ : ∃ xs, xs = ints .i64 ZS := ⟨_, rfl⟩
      rw [← hxs] at HF HlZ hrZ
      obtain ⟨ys, hys⟩ : ∃ ys, ys = ints .i64 (fromL ZS) := ⟨_, rfl⟩
      rw [← hys] at HF HT HlY honeY
      have HYe := veil hys
      have HLE : Hid (all.length = AL.length) := by show _ = _; rw [hAL]
      rw [HLE.out]
      clear hT hAL hZS hxs hys HB1
      go_wp2_with (first
        | (refine wpList_load_mid rfl 37 (.tmp 8) rfl (w.heap.size + 1) 0 rfl xs _ hrZ Tryz.underlying37 rfl (info_blkn HlZ.out) ?_)
        | fail)
      refine (HF.out _).mono ?_
      rintro e w5 ⟨rfl, hb5⟩
      have hz5 := hb5.size
      have hr5 := range_new w5 ys 37
      have hb6 := below1 w5 (.cells ys.toArray 37)
      have hz6 : (w5.alloc (.cells ys.toArray 37)).heap.size = w5.heap.size + 1 := by simp
      have HO6 := (HO.below hb5).below hb6
      have hbw6 := hb5.trans (hb6.mono hz5)
      clear hrZ
      go_wp2_with (first
        | (refine wpList_store_new w5 rfl 37 (.tmp 13) (.tmp 111) rfl zeroB.toArray ys rfl rfl (info_blkn HlY.out) (by rw [HlY.out]; rfl) honeY ?_)
        | (refine wpList_load_mid rfl 37 (.tmp 13) rfl w5.heap.size 0 rfl ys _ hr5 Tryz.underlying37 rfl (info_blkn HlY.out) ?_)
        | fail)
      refine (HT.out _).mono ?_
      rintro e w7 ⟨v2, rfl, HO7, hb7⟩
      have HOb := HO6.below hb7
      have hz7 := hb7.size
      rw [hz6] at hz7
      obtain ⟨A2, c2', e2, hs2, _, _⟩ := HO7.seen (List.mem_cons_self ..)
      obtain ⟨A3, c3, e3, hs3, _, _⟩ := HOb.seen (List.mem_cons_self ..)
      simp only [tokRow] at e2 e3 hs2 hs3
      subst e2
      injection e3 with e3 e4 e5
      subst e3 e5
      have HEQ := veil (eqTok A2 A7 c2' c7 w7.heap.size T AL w7 hs2 hs3 (Nat.le_refl _) (by have := HTl.out; omega) HAl.out)
      have hbw7 := hbw6.trans (hb7.mono (by rw [hz6]; omega))
      have HB0b := HB0.below hbw7 (by omega)
      have hkw7 := grown_below hkw hbw7 (by omega)
      have hR7 := HK.out _ _ _ hR (hbw7.mono (by omega))
      have hr7 := range_below hr5 hb7 (by rw [hz6]; omega)
      clear hr5 hb6 HO6 hbw6 HO7 hb7 HOb hs2 hs3 e4 hbw7 HB0 hkw hR hb5 HO hz6
      go_wp2_with fail
      refine HEQ.out.mono ?_
      rintro e w8 ⟨rfl, hb8⟩
      have hz8 := hb8.size
      have HB8 := veil (HB0b.below hb8 (by omega))
      have hkw8 := veil (grown_below hkw7 hb8 (by omega))
      have hR8 := veil (HK.out _ _ _ hR7 (hb8.mono (by omega)))
      have hr8 := range_below hr7 hb8 (by omega)
      clear hb8 hr7 HB0b hkw7 hR7
      by_cases hTA : T = AL
      · rw [decide_eq_true hTA]
        have HDf : Hid (D = (0, ZS, AL, some s1)) := by
          show _ = _
          rw [HD.out]; unfold finG; rw [if_pos rfl]; simp only []; rw [← HTe.out, if_pos hTA]
        clear hTA HD
        go_wp2_with (first
          | (refine wpList_load_mid rfl 37 (.tmp 13) rfl w5.heap.size 0 rfl ys _ hr8 Tryz.underlying37 rfl (info_blkn HlY.out) ?_)
          | (refine wpList_store_blk w8 rfl 37 (.tmp 4) (.tmp 123) rfl w.heap.size zeroB ys 37 HB8.out rfl rfl (info_blkn HlY.out) (by rw [HlY.out, hzl.out]) honeY ?_; intro w9 HB9 hg9)
          | fail)
        exact blockOf_ok HDf.out (by rw [← HYe.out]; exact HB9) (by rw [← HYe.out]; exact HlY.out) rfl rfl rfl rfl (grown_grown hkw8.out hg9 (Nat.le_refl _)) (HK.out _ _ _ hR8.out ((Below.refl _ _).grown hg9 (by omega) (fun j hj => by injection hj with hj; omega)))
      · rw [decide_eq_false hTA]
        have HDf : Hid (D = (4, [], [], none)) := by
          show _ = _
          rw [HD.out]; unfold finG; rw [if_pos rfl]; simp only []; rw [← HTe.out, if_neg hTA]
        clear hTA HD hr8
        go_wp2_with (first
          | (refine wpList_store_blk w8 rfl 37 (.tmp 4) (.tmp 122) rfl w.heap.size zeroB zeroB 37 HB8.out rfl rfl (info_blkn hzl.out) rfl hzone ?_; intro w9 HB9 hg9)
          | fail)
        exact blockOf_err HDf.out (by decide) rfl rfl rfl rfl HB9 (grown_grown hkw8.out hg9 (Nat.le_refl _))
end Go.Proofs.YtddkhkpdbjjboaaGreat

/- The reference's Stuff and Plain: the same contracts. -/
namespace Go.Proofs.YtddkhkpdbjjboaaGreat
open Go.RowKit
set_option linter.unusedVariables false
set_option linter.unusedSimpArgs false
set_option maxRecDepth 100000

set_option maxHeartbeats 1000000 in
theorem refPlain_any (A : Option Addr) (c G : Nat) (bs : List Int) (w : World) (hb : Seen w G A (ints .u8 bs)) (hG : G ≤ w.heap.size) (hl : bs.length ≤ 140737488355328) :
    Calls Tryz.prog 32 #[.slice A bs.length c] w fun e w' => ∃ v, e = .returned (.tuple #[v, .int .i64 (plainErr bs)]) ∧ Owns w.heap.size [byteRow v (plainOut bs)] w' ∧ Below w.heap.size w w' := by
  go_enter Tryz.func32, Tryz.ntmps32
  go_wp2_with fail
  go_loopg [4, 5] bs.length (fun gk v i wr => ∃ (k : Nat) (acc : List Int), gk = bs.length - k ∧ k ≤ bs.length ∧ i = .int .i64 k ∧ Hid (PlInv bs k acc) ∧ acc.length ≤ k ∧ Owns w.heap.size [byteRow v acc] wr ∧ Below w.heap.size w wr)
  case atStart => exact ⟨0, [], rfl, Nat.zero_le _, rfl, veil (PlInv.start bs), Nat.zero_le _, (Owns.start w).fresh _ _, Below.refl _ _⟩
  case round =>
    obtain ⟨k, acc, rfl, hk, rfl, HI, hacc, HO, hbel⟩ := hrel
    have hB := hbel.size
    by_cases hlt : k < bs.length
    · obtain ⟨g, o, x, rfl, hg, hx, h1⟩ := hb.int hlt
      have Hx := veil hx; clear hx
      rw [← hbel.cell (by simp; omega)] at h1
      by_cases h255 : x = 255
      · subst h255
        by_cases hlast : k + 1 = bs.length
        · have hpn := HI.out.last Hx.out hlast
          have hpo := plain_none hpn
          have Ho := veil hpo.1; have He := veil hpo.2
          have hlast' : (k : Int) + 1 = (bs.length : Int) := by omega
          clear hpn hpo
          go_wp2_with (first
            | (at_builtin; go_loud (refine wpList_ownI _ rfl (.tmp 12) (.tmp 17) _ rfl w.heap.size 5 .u8 1 elem_byte u4 acc [] rfl HO [255] rfl (by unfold maxLen; simp; omega) (by simp; omega) ?_); intro v1 w1 HO1 hb1 hz1; have h1' := h1; rw [← hb1.cell (by simp; omega)] at h1'))
          go_ret2
          exact ⟨_, ret_two rfl (by rw [He.out]; rfl), by rw [Ho.out]; exact (Owns.nil (hbel.trans hb1).size).fresh _ _, hbel.trans hb1⟩
        · obtain ⟨g2, o2, y, e2, hg2, hy, h2⟩ := hb.int (k := k + 1) (by omega)
          injection e2 with e2
          injection e2 with e3 e4
          subst e3 e4
          have Hy := veil hy; clear hy
          rw [← hbel.cell (by simp; omega)] at h2
          have hne : ¬ ((k : Int) + 1 = (bs.length : Int)) := by omega
          have hlt2 : (k : Int) + 1 < (bs.length : Int) := by omega
          by_cases hy0 : y = 0
          · subst hy0
            go_wp2_with (first
              | (at_builtin; go_loud (refine wpList_ownI _ rfl (.tmp 12) (.tmp 17) _ rfl w.heap.size 5 .u8 1 elem_byte u4 acc [] rfl HO [255] rfl (by unfold maxLen; simp; omega) (by simp; omega) ?_); intro v1 w1 HO1 hb1 hz1; have h1' := h1; have h2' := h2; rw [← hb1.cell (by simp; omega)] at h1' h2'))
            go_roundg (bs.length - (k + 2))
            case rel => exact ⟨k + 2, _, rfl, by omega, by go_num, veil (HI.out.lead Hx.out Hy.out), by simp; omega, HO1, hbel.trans hb1⟩
            case measure => omega
          · have hpn := HI.out.bad Hx.out Hy.out hy0
            have hpo := plain_none hpn
            have Ho := veil hpo.1; have He := veil hpo.2
            have hyb : (y != 0) = true := by simpa using hy0
            clear hpn hpo hy0
            go_wp2_with (first
              | (at_builtin; go_loud (refine wpList_ownI _ rfl (.tmp 12) (.tmp 17) _ rfl w.heap.size 5 .u8 1 elem_byte u4 acc [] rfl HO [255] rfl (by unfold maxLen; simp; omega) (by simp; omega) ?_); intro v1 w1 HO1 hb1 hz1; have h1' := h1; have h2' := h2; rw [← hb1.cell (by simp; omega)] at h1' h2'))
            go_ret2
            exact ⟨_, ret_two rfl (by rw [He.out]; rfl), by rw [Ho.out]; exact (Owns.nil (hbel.trans hb1).size).fresh _ _, hbel.trans hb1⟩
      · have hxb : (x != 255) = true := by simpa using h255
        have hxb' : (x == 255) = false := by simpa using h255
        have H255 := veil h255; clear h255
        go_wp2_with (first
          | (at_builtin; go_loud (refine wpList_ownI _ rfl (.tmp 12) (.tmp 17) _ rfl w.heap.size 5 .u8 1 elem_byte u4 acc [] rfl HO [x] rfl (by unfold maxLen; simp; omega) (by simp; omega) ?_); intro v1 w1 HO1 hb1 hz1; have h1' := h1; rw [← hb1.cell (by simp; omega)] at h1'))
        go_roundg (bs.length - (k + 1))
        case rel => exact ⟨k + 1, _, rfl, by omega, by go_num, veil (HI.out.other Hx.out H255.out), by simp; omega, HO1, hbel.trans hb1⟩
        case measure => omega
    · obtain rfl : k = bs.length := by omega
      have hpo := plain_some HI.out.done
      have Ho := veil hpo.1; have He := veil hpo.2
      clear hpo
      go_wp2
      go_ret2
      exact ⟨_, ret_two rfl (by rw [He.out]; rfl), by rw [Ho.out]; exact HO, hbel⟩
end Go.Proofs.YtddkhkpdbjjboaaGreat

/- strings.Contains at a text of digits and the digit 0. -/
namespace Go.Proofs.YtddkhkpdbjjboaaGreat
open Go.RowKit
set_option linter.unusedVariables false
set_option linter.unusedSimpArgs false
set_option maxRecDepth 100000

theorem indexByte_dig : ∀ l : List Bool, (0 ≤ Lib.indexByte (dig l) 48) ↔ ¬ l.all id = true
  | [] => by simp [dig, Lib.indexByte]
  | true :: l => by
    have ih := indexByte_dig l
    have h1 : dig (true :: l) = 49 :: dig l := rfl
    rw [h1, Lib.indexByte, if_neg (by decide)]
    simp only [List.all_cons, id, Bool.true_and]
    rw [← ih]
    by_cases h : Lib.indexByte (dig l) 48 = -1
    · rw [h]; simp
    · have h2 : (Lib.indexByte (dig l) 48 == -1) = false := by simpa using h
      rw [h2]
      have : -1 ≤ Lib.indexByte (dig l) 48 := by
        clear ih h h2
        generalize dig l = q
        induction q with
        | nil => simp [Lib.indexByte]
        | cons b q ih =>
          rw [Lib.indexByte]
          split
          · omega
          · split
            · omega
            · omega
      simp only [Bool.false_eq_true, if_false]
      omega
  | false :: l => by
    have h1 : dig (false :: l) = 48 :: dig l := rfl
    rw [h1, Lib.indexByte, if_pos (by decide)]
    simp
theorem txt_data (l : List Bool) : (txt l).data.toList = dig l := by simp [txt]
set_option maxHeartbeats 1000000 in
set_option maxRecDepth 100000 in
theorem indexByte0 (s : ByteArray) (c : Int) (w : World) : Calls Tryz.prog 95 #[.string s, .int .u8 c] w fun e w' => e = .returned (.int .i64 (Lib.indexByte s.data.toList c.toNat.toUInt8)) ∧ w = w' := by
  go_enter Tryz.func95, Tryz.ntmps95
  go_wp2_with fail
  rw [run_callFunc_extern Tryz.func102 (by kernel_rfl) (by kernel_rfl) (by kernel_rfl) (e := Extern.BytealgIndexByte.indexByte) (by kernel_rfl), Lib.run_indexByteString]
  simp only [Result.andThen]
  rw [Oper.upon_value]
  go_wp2
  go_ret
  exact ⟨rfl, rfl⟩
set_option maxHeartbeats 1000000 in
set_option maxRecDepth 100000 in
theorem index0 (s : ByteArray) (w : World) : Calls Tryz.prog 85 #[.string s, .string ⟨#[48]⟩] w fun e w' => e = .returned (.int .i64 (Lib.indexByte s.data.toList 48)) ∧ w = w' := by
  have H := veil (indexByte0 s 48 w)
  cases hb : ([48] == s.toList) with
  | true =>
    have hs : s.data.toList = [48] := by
      have := eq_of_beq hb
      rw [ByteArray.toList_eq] at this; exact this.symm
    have h0 : Lib.indexByte s.data.toList 48 = 0 := by rw [hs]; rfl
    have H0 := veil h0
    clear hs h0 H
    go_enter Tryz.func85, Tryz.ntmps85
    go_wp2_with fail
    go_ret
    exact ⟨by rw [H0.out]; rfl, rfl⟩
  | false =>
    go_enter Tryz.func85, Tryz.ntmps85
    go_wp2_with fail
    refine H.out.mono ?_
    rintro e w' ⟨rfl, rfl⟩
    go_wp2
    go_ret
    exact ⟨rfl, rfl⟩
set_option maxHeartbeats 1000000 in
theorem index1 (s : ByteArray) (w : World) : Calls Tryz.prog 63 #[.string s, .string ⟨#[48]⟩] w fun e w' => e = .returned (.int .i64 (Lib.indexByte s.data.toList 48)) ∧ w = w' := by
  have H := veil (index0 s w)
  go_enter Tryz.func63, Tryz.ntmps63
  go_wp2_with fail
  refine H.out.mono ?_
  rintro e w' ⟨rfl, rfl⟩
  go_wp2
  go_ret
  exact ⟨rfl, rfl⟩
set_option maxHeartbeats 1000000 in
/-- Is a digit 0 among them? -/
theorem hasZero_any (l : List Bool) (w : World) : Calls Tryz.prog 38 #[.string (txt l), .string ⟨#[48]⟩] w fun e w' => e = .returned (.bool (!l.all id)) ∧ w = w' := by
  have H := index1 (txt l) w
  rw [txt_data] at H
  have hb : decide (Lib.indexByte (dig l) 48 ≥ 0) = !l.all id := by
    rw [Bool.eq_iff_iff, decide_eq_true_iff, ge_iff_le, indexByte_dig]
    simp
  have Hb := veil hb
  have H := veil H
  clear hb
  generalize Lib.indexByte (dig l) 48 = K at *
  go_enter Tryz.func38, Tryz.ntmps38
  go_wp2_with fail
  refine H.out.mono ?_
  rintro e w' ⟨rfl, rfl⟩
  go_wp2
  go_ret
  exact ⟨ret_bool Hb.out, rfl⟩
end Go.Proofs.YtddkhkpdbjjboaaGreat

/- Blocks built and appended in a region driven by hand. -/
namespace Go.Proofs.YtddkhkpdbjjboaaGreat
open Go.RowKit
set_option linter.unusedVariables false
set_option linter.unusedSimpArgs false
set_option maxRecDepth 100000

theorem step_buildBlk {ops : Array Oper} {o : Oper} {a : Act} {w : World} {K : Act → World → Prop} {Q : Exit → Act → World → Prop} {F : Prop} (hg : Region.wanted o (yielded ops a.tmps) = true) (x : Operand) (ho : o.op = .buildSlice 29 1 #[(0, x)]) (ys : List Value) (hx : a.eval x = .agg ys.toArray) (hl : ys.length = 64)
    (h : K (a.put o.dst (.slice (some ⟨w.heap.size, 0, none⟩) 1 1)) (w.alloc (.cells ys.toArray 37))) : if Region.wanted o (yielded ops a.tmps) = true then Oper.wp Tryz.prog o a w K Q else F := by
  rw [if_pos hg]
  obtain ⟨i0, hi, hz0, hz1, hz2⟩ := info_parts info_blk3
  refine wp_buildSlice 29 37 1 #[(0, x)] ho ys.toArray i0 (.agg zeroB.toArray) Tryz.underlying29 hi hz0 (by rw [hz1]; omega) (by rw [hz1]; omega) ?_ h
  have e : (#[(0, x)].map fun (i, x) => (i, a.eval x)).toList = [(0, .agg ys.toArray)] := by simp [hx]
  rw [e, hz1]
  exact fill_blk ys hl _ (by simp)
theorem step_ownB {ops : Array Oper} {o : Oper} {a : Act} {K : Act → World → Prop} {Q : Exit → Act → World → Prop} {F : Prop} (w0 : World) (hgd : Region.wanted o (yielded ops a.tmps) = true) (s x : Operand)
    (ho : o.op = .call { callee := .builtin .append, args := #[s, x], argTypes := #[29, 29] })
    (B : Nat) (v : Value) (l : List (List Int)) (rs : List Row) (hs : a.eval s = v) (HO : Owns B (blkRow v l :: rs) w0) (r : List Int) (ys : List Value) (hys : ys = ints .i64 r) (hr : r.length = 64) (hx : a.eval x = .slice (some ⟨w0.heap.size, 0, none⟩) 1 1)
    (h63 : l.length + 1 ≤ 1000000)
    (h : ∀ v' w', Owns B (blkRow v' (l ++ [r]) :: rs) w' → (w0.alloc (.cells ys.toArray 37)).grownBy w' v.ownBlock → Below B w0 w' → w0.heap.size < w'.heap.size → K (a.put o.dst v') w') : if Region.wanted o (yielded ops a.tmps) = true then Oper.wp Tryz.prog o a (w0.alloc (.cells ys.toArray 37)) K Q else F := by
  subst hys
  have e := rowsC_one r
  rw [if_pos hgd]
  refine wp_ownV _ s x _ ho B 37 64 512 elem_blk v l.length (rowsC l) rs hs (HO.alloc _) (w0.heap.size + 1) _ 1 1 (rowsC [r]) hx (by rw [e]; exact Seen.new w0 (ints .i64 r) _ _ (Nat.lt_succ_self _)) (by rw [e, ints_length, hr]) (by rw [e]; exact ints_one) (by unfold maxLen; omega) (by omega) ?_
  intro v' w' h2 hg h3
  have := h3.size
  refine h v' w' ?_ hg (((Below.refl _ _).alloc HO.base _).trans h3) (by simp at this; omega)
  rw [← blkRow_append]
  exact h2
end Go.Proofs.YtddkhkpdbjjboaaGreat
