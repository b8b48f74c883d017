/- slices.symMergeCmpFunc over bundles, with two elements or more on each side: its contract. -/
import Derived.Test.YthelblkpfkngmaaSortSym
import Derived.Deep.DeepCutAuto
namespace Go.Proofs.Ythelblkpfkngmaa
open Go.Shelf Go.RowKit Go.Lib Go.Sort
set_option linter.unusedVariables false
set_option linter.unusedSimpArgs false

set_option maxHeartbeats 8000000 in
set_option maxRecDepth 1000000 in
theorem symMerge_all (blk off cap : Nat) (d0 : Array Hd) (w0 : World) (R : RowK encH 2 w0 blk off d0) (hsz : d0.size < 4611686018427387904) (n : Nat) : ∀ (a m b : Nat) (d : Array Hd) (w : World), b - a ≤ n → d0.size = d.size → SWK encH 2 w0 blk off d w → a < m → m < b → b ≤ d.size → SortK keyH a m d → SortK keyH m b d →
    Calls Try.prog 58 #[.slice (some ⟨blk, off, none⟩) d.size cap, .int .i64 a, .int .i64 m, .int .i64 b, .func (.func 42) #[] #[]] w fun e w' => e = .returned (.tuple #[]) ∧ ∃ d', PermIn a b d d' ∧ SortK keyH a b d' ∧ SWK encH 2 w0 blk off d' w' := by
  induction n with
  | zero => intro a m b d w h1 _ _ h2 h3; omega
  | succ n ih =>
    intro a m b d w hn hs S ham hmb hb hU hV
    by_cases e1 : m = a + 1
    · subst e1
      exact symMerge_one blk off cap a b d0 d w0 w R hs S hmb hb (by omega) hV
    by_cases e2 : b = m + 1
    · subst e2
      exact symMerge_last blk off cap a m d0 d w0 w R hs S (by omega) hb (by omega) hU
    have mixed := mixedH
    have eg := entersH
    have IH := veil ih
    have S0 : Aside (SWK encH 2 w0 blk off d w) := S
    have HU := veil hU
    have HV := veil hV
    clear S hU hV ih
    have ea : ((m : Int) - (a : Int) == 1) = false := by simp; omega
    have eb : ((b : Int) - (m : Int) == 1) = false := by simp; omega
    obtain ⟨mid, hmid⟩ : ∃ mid, mid = (a + b) / 2 := ⟨_, rfl⟩
    have em : ((a : Int) + (b : Int)) / 2 = (mid : Int) := by omega
    have hma : a < mid := by omega
    have hmb2 : mid < b := by omega
    obtain ⟨s0, r0, h0, hs0⟩ : ∃ s0 r0 : Nat, (if mid < m then s0 = mid + m - b ∧ r0 = mid else s0 = a ∧ r0 = m) ∧ (a ≤ s0 ∧ s0 ≤ r0 ∧ r0 ≤ m ∧ r0 ≤ mid ∧ mid + m - s0 ≤ b ∧ b ≤ mid + m ∨ a ≤ s0 ∧ s0 ≤ r0 ∧ r0 ≤ m ∧ r0 ≤ mid ∧ mid + m - s0 ≤ b) := by
      by_cases h : mid < m
      · exact ⟨mid + m - b, mid, by rw [if_pos h]; exact ⟨rfl, rfl⟩, .inr ⟨by omega, by omega, by omega, by omega, by omega⟩⟩
      · exact ⟨a, m, by rw [if_neg h]; exact ⟨rfl, rfl⟩, .inr ⟨by omega, by omega, by omega, by omega, by omega⟩⟩
    have hs1 : a ≤ s0 ∧ s0 ≤ r0 ∧ r0 ≤ m ∧ r0 ≤ mid ∧ mid + m - s0 ≤ b := by omega
    clear hs0
    obtain ⟨k1, k2, k3, k4, k5⟩ := hs1
    have H0 := veil h0; have Hmid := veil hmid; have Hn := veil hn
    clear h0 hmid hn
    go_enter Try.func58, Try.ntmps58
    go_upto_if 140 with fail
    go_cut [20, 21] (fun v20 v21 wx => v20 = .int .i64 s0 ∧ v21 = .int .i64 r0 ∧ w = wx)
    case first =>
      as_aux_lemma =>
        by_cases hm : mid < m
        · have hmz : (mid : Int) < (m : Int) := by omega
          have h1 := H0.out
          rw [if_pos hm] at h1
          have e20 : (mid : Int) + (m : Int) - (b : Int) = (s0 : Int) := by omega
          obtain ⟨h1, rfl⟩ := h1
          clear h1
          go_wp2
          go_meet
          case rel => exact ⟨rfl, rfl, rfl⟩
        · have hmz : ¬ (mid : Int) < (m : Int) := by omega
          have h1 := H0.out
          rw [if_neg hm] at h1
          obtain ⟨rfl, rfl⟩ := h1
          go_wp2
          go_meet
          case rel => exact ⟨rfl, rfl, rfl⟩
    case rest =>
      obtain ⟨rfl, rfl, rfl⟩ := hcut
      go_wp2
      go_loopg [20, 21] (r0 - s0) (fun g1 vi vj wr => ∃ (i j : Nat), vi = .int .i64 i ∧ vj = .int .i64 j ∧ s0 ≤ i ∧ i ≤ j ∧ j ≤ r0 ∧ j - i ≤ g1 ∧ Aside (SWK encH 2 w0 blk off d wr) ∧ Hid ((∀ c, s0 ≤ c → c < i → keyH d[c]! ≤ keyH d[mid + m - 1 - c]!) ∧ ∀ c, j ≤ c → c < r0 → keyH d[mid + m - 1 - c]! < keyH d[c]!))
      case atStart => exact ⟨s0, r0, rfl, rfl, by omega, by omega, by omega, by omega, S0, ⟨fun h _ _ => by omega, fun h _ _ => by omega⟩⟩
      case round =>
        clear S0
        obtain ⟨i, j, rfl, rfl, hai, hij, hjb, hg, S1, HP⟩ := hrel
        by_cases hlt : i < j
        · have hltz : (i : Int) < (j : Int) := by omega
          obtain ⟨h, hh⟩ : ∃ h, h = (i + j) / 2 := ⟨_, rfl⟩
          have e2' : ((i : Int) + (j : Int)) / 2 = (h : Int) := by omega
          have hih : i ≤ h := by omega
          have hhj : h < j := by omega
          obtain ⟨q, hq⟩ : ∃ q, q = mid + m - 1 - h := ⟨_, rfl⟩
          have eq1 : (mid : Int) + (m : Int) - 1 - (h : Int) = (q : Int) := by omega
          have rq1 : IntKind.i64.wrap ((mid : Int) + (m : Int) - 1 - (h : Int)) = (q : Int) := by rw [IntKind.wrap_i64]; omega
          have rq2 : IntKind.i64.wrap (q : Int) = (q : Int) := by rw [IntKind.wrap_i64]; omega
          have bh : (h : Int) < (d.size : Int) := by omega
          have ba : (q : Int) < (d.size : Int) := by omega
          have hqb : q < b := by omega
          have hqm : m ≤ q := by omega
          have Hq := veil hq
          clear hh hq
          obtain ⟨x, hx⟩ : ∃ x, d[q]! = x := ⟨_, rfl⟩
          obtain ⟨y, hy⟩ : ∃ y, d[h]! = y := ⟨_, rfl⟩
          have cx0 := fun n os => (swk_c0 (S1.out.grown n os) R (by omega) (by omega) hx).1
          have cx1 := fun n os => (swk_c1 (S1.out.grown n os) R (by omega) (by omega) hx).1
          have cy0 := fun n os => (swk_c0 (S1.out.grown n os) R (by omega) (by omega) hy).1
          have cy1 := fun n os => (swk_c1 (S1.out.grown n os) R (by omega) (by omega) hy).1
          have hcmp := S1.out.cmp (cmpLaysH blk off d0.size w0) (by omega) x y
          have hcf := cfH_neg x y
          have Hcf := veil hcf; clear hcf
          have Hx := veil hx; have Hy := veil hy; clear hx hy
          obtain ⟨x1, xA, xn, xc⟩ := x
          obtain ⟨y1, yA, yn, yc⟩ := y
          generalize cfH (x1, xA, xn, xc) (y1, yA, yn, yc) = r at hcmp Hcf
          simp only [encH, Array.append_empty] at cx0 cx1 cy0 cy1 hcmp
          obtain ⟨bv, hbv⟩ : ∃ bv, decide (r < 0) = bv := ⟨_, rfl⟩
          go_wp2_with fail
          go_quiet_grown (first | (go_at_fn 42; refine Calls.grown_of (hcmp _ _)))
          have S2 : Aside (SWK encH 2 w0 blk off d (grow (wr.drewN nq) osq)) := S1.out.grown nq osq
          clear cx0 cx1 cy0 cy1 hcmp S1
          generalize grow (wr.drewN nq) osq = w2 at S2 ⊢
          clear nq osq
          cases bv with
          | true =>
            have hlr : x1 < y1 := Hcf.out.1 (of_decide_eq_true hbv)
            go_wp2
            go_roundg (h - i)
            case measure => omega
            case rel =>
              refine ⟨i, h, rfl, rfl, hai, hih, by omega, Nat.le_refl _, S2, ⟨HP.out.1, fun c hk1 hk2 => ?_⟩⟩
              have h1 := HU.out.le (i := h) (j := c) (by omega) hk1 (by omega)
              have h2 := HV.out.le (i := mid + m - 1 - c) (j := q) (by omega) (by have := Hq.out; omega) hqb
              rw [Hy.out] at h1
              rw [Hx.out] at h2
              simp only [keyH] at h1 h2 ⊢
              omega
          | false =>
            have hlr : ¬ x1 < y1 := fun h => of_decide_eq_false hbv (Hcf.out.2 h)
            go_wp2
            go_roundg (j - (h + 1))
            case measure => omega
            case rel =>
              refine ⟨h + 1, j, by go_num, rfl, by omega, by omega, hjb, Nat.le_refl _, S2, ⟨fun c hk1 hk2 => ?_, HP.out.2⟩⟩
              have h1 := HU.out.le (i := c) (j := h) (by omega) (by omega) (by omega)
              have h2 := HV.out.le (i := q) (j := mid + m - 1 - c) hqm (by have := Hq.out; omega) (by omega)
              rw [Hy.out] at h1
              rw [Hx.out] at h2
              simp only [keyH] at h1 h2 ⊢
              omega
        · obtain rfl : i = j := by omega
          have hltz : ¬ (i : Int) < (i : Int) := by omega
          have hcutp := Cut.of HU.out HV.out ham hmb Hmid.out H0.out hai hjb HP.out.1 HP.out.2
          obtain ⟨en, hen⟩ : ∃ en, en = mid + m - i := ⟨_, rfl⟩
          have een : (mid : Int) + (m : Int) - (i : Int) = (en : Int) := by omega
          have c1 := hcutp.h1; have c2 := hcutp.h2; have c3 := hcutp.h3
          have c4 : m ≤ en := by rw [hen]; exact hcutp.h4
          have c5 : mid ≤ en := by rw [hen]; exact hcutp.h5
          have c6 : en ≤ b := by rw [hen]; exact hcutp.h6
          have c7 : i - a = i - a := rfl
          have HC := veil hcutp; have Hen := veil hen
          clear hcutp hen c7 HP
          obtain ⟨B1, hB1⟩ : ∃ B, B = decide (i < m ∧ m < en) := ⟨_, rfl⟩
          have HB1 := veil hB1; clear hB1
          go_upto_region 39 with fail
          go_cut [185] (fun vb wx => vb = .bool B1 ∧ wr = wx)
          case first =>
            as_aux_lemma =>
              by_cases hp : i < m
              · have hpz : (i : Int) < (m : Int) := by omega
                by_cases hq : m < en
                · have hqz : (m : Int) < (en : Int) := by omega
                  go_wp2
                  go_meet
                  case rel => exact ⟨by rw [HB1.out, decide_eq_true ⟨hp, hq⟩], rfl⟩
                · have hqz : ¬ (m : Int) < (en : Int) := by omega
                  go_wp2
                  go_meet
                  case rel => exact ⟨by rw [HB1.out, decide_eq_false fun h => hq h.2], rfl⟩
              · have hpz : ¬ (i : Int) < (m : Int) := by omega
                go_wp2
                go_meet
                case rel => exact ⟨by rw [HB1.out, decide_eq_false fun h => hp h.1], rfl⟩
          case rest =>
            obtain ⟨rfl, rfl⟩ := hcut
            go_upto_if 185 with fail
            go_cut [24] (fun v24 wx => v24 = .int .i64 en ∧ ∃ d1 : Array Hd, d1.size = d.size ∧ Aside (SWK encH 2 w0 blk off d1 wx) ∧ Hid (PermIn a b d d1 ∧ ∀ t, d1[t]! = rg d i m en t))
            case first =>
              as_aux_lemma =>
                cases B1 with
                | true =>
                  have hB := of_decide_eq_true HB1.out.symm
                  have hc := rotate_any blk off cap i m en d0 d w0 wr R hs S1.out hB.1 hB.2 (by omega) (by omega)
                  have HC1 := veil hc; clear hc hB
                  go_wp2_with fail
                  refine HC1.out.mono ?_
                  rintro e w1 ⟨rfl, d1, p1, p2, S2⟩
                  have S3 : Aside (SWK encH 2 w0 blk off d1 w1) := S2
                  have HP1 := veil p1; have HP2 := veil p2
                  clear S2 p1 p2 HC1 S1
                  go_wp2
                  go_meet
                  case rel => exact ⟨rfl, d1, HP1.out.1, S3, permIn_mono _ _ _ _ _ _ (by omega) (by omega) (by omega) HP1.out, HP2.out⟩
                | false =>
                  have hB := of_decide_eq_false HB1.out.symm
                  have HB := veil hB; clear hB
                  go_wp2
                  go_meet
                  case rel =>
                    refine ⟨rfl, d, rfl, S1, permIn_refl _ _ _, fun t => ?_⟩
                    have := HB.out
                    rcases Nat.eq_or_lt_of_le c2 with rfl | h
                    · exact (rg_none d).1.symm
                    · obtain rfl : m = en := by omega
                      exact ((rg_none d).2 c2).symm
            case rest =>
              as_aux_lemma =>
                clear HB1 S1
                obtain ⟨rfl, d1, hs1, S1, HP1⟩ := hcut
                have hrot := HC.out.rot HU.out HV.out (by rw [← Hen.out]; exact HP1.out.2)
                rw [← Hen.out] at hrot
                have HR := veil hrot
                clear hrot
                obtain ⟨B2, hB2⟩ : ∃ B, B = decide (a < i ∧ i < mid) := ⟨_, rfl⟩
                have HB2 := veil hB2; clear hB2
                go_upto_region 41 with fail
                go_cut [199] (fun vb wx => vb = .bool B2 ∧ wc = wx)
                case first =>
                  as_aux_lemma =>
                    by_cases hp : a < i
                    · have hpz : (a : Int) < (i : Int) := by omega
                      by_cases hq : i < mid
                      · have hqz : (i : Int) < (mid : Int) := by omega
                        go_wp2
                        go_meet
                        case rel => exact ⟨by rw [HB2.out, decide_eq_true ⟨hp, hq⟩], rfl⟩
                      · have hqz : ¬ (i : Int) < (mid : Int) := by omega
                        go_wp2
                        go_meet
                        case rel => exact ⟨by rw [HB2.out, decide_eq_false fun h => hq h.2], rfl⟩
                    · have hpz : ¬ (a : Int) < (i : Int) := by omega
                      go_wp2
                      go_meet
                      case rel => exact ⟨by rw [HB2.out, decide_eq_false fun h => hp h.1], rfl⟩
                case rest =>
                  obtain ⟨rfl, rfl⟩ := hcut
                  go_upto_if 199 with fail
                  go_cut [24] (fun v24 wx => v24 = .int .i64 en ∧ ∃ d2 : Array Hd, d2.size = d.size ∧ Aside (SWK encH 2 w0 blk off d2 wx) ∧ Hid (PermIn a mid d1 d2 ∧ SortK keyH a mid d2))
                  case first =>
                    as_aux_lemma =>
                      cases B2 with
                      | true =>
                        have hB := of_decide_eq_true HB2.out.symm
                        have hc := IH.out a i mid d1 _ (by have := Hn.out; omega) (by omega) S1.out hB.1 hB.2 (by omega) HR.out.1 HR.out.2.1
                        rw [hs1] at hc
                        have HC1 := veil hc; clear hc hB
                        go_wp2_with fail
                        refine HC1.out.mono ?_
                        rintro e w1 ⟨rfl, d2, p1, p2, S2⟩
                        have S3 : Aside (SWK encH 2 w0 blk off d2 w1) := S2
                        have HP3 := veil p1; have HP4 := veil p2
                        clear S2 p1 p2 HC1 S1
                        go_wp2
                        go_meet
                        case rel => exact ⟨rfl, d2, HP3.out.1.trans hs1, S3, HP3.out, HP4.out⟩
                      | false =>
                        have hB := of_decide_eq_false HB2.out.symm
                        have HB := veil hB; clear hB
                        go_wp2
                        go_meet
                        case rel =>
                          refine ⟨rfl, d1, hs1, S1, permIn_refl _ _ _, ?_⟩
                          have := HB.out
                          rcases Nat.eq_or_lt_of_le c1 with rfl | h
                          · exact HR.out.2.1
                          · obtain rfl : i = mid := by omega
                            exact HR.out.1
                  case rest =>
                    as_aux_lemma =>
                      clear HB2 S1
                      obtain ⟨rfl, d2, hs2, S1, HP2⟩ := hcut
                      have s3 : SortK keyH mid en d2 := HR.out.2.2.1.congr fun t h _ => HP2.out.1.2.1 t (.inr h)
                      have s4 : SortK keyH en b d2 := HR.out.2.2.2.1.congr fun t h _ => HP2.out.1.2.1 t (.inr (by omega))
                      have H3 := veil s3; have H4 := veil s4
                      clear s3 s4
                      obtain ⟨B3, hB3⟩ : ∃ B, B = decide (mid < en ∧ en < b) := ⟨_, rfl⟩
                      have HB3 := veil hB3; clear hB3
                      go_upto_region 43 with fail
                      go_cut [213] (fun vb wx => vb = .bool B3 ∧ wc = wx)
                      case first =>
                        as_aux_lemma =>
                          by_cases hp : mid < en
                          · have hpz : (mid : Int) < (en : Int) := by omega
                            by_cases hq : en < b
                            · have hqz : (en : Int) < (b : Int) := by omega
                              go_wp2
                              go_meet
                              case rel => exact ⟨by rw [HB3.out, decide_eq_true ⟨hp, hq⟩], rfl⟩
                            · have hqz : ¬ (en : Int) < (b : Int) := by omega
                              go_wp2
                              go_meet
                              case rel => exact ⟨by rw [HB3.out, decide_eq_false fun h => hq h.2], rfl⟩
                          · have hpz : ¬ (mid : Int) < (en : Int) := by omega
                            go_wp2
                            go_meet
                            case rel => exact ⟨by rw [HB3.out, decide_eq_false fun h => hp h.1], rfl⟩
                      case rest =>
                        obtain ⟨rfl, rfl⟩ := hcut
                        cases B3 with
                        | true =>
                          have hB := of_decide_eq_true HB3.out.symm
                          have hc := IH.out mid en b d2 _ (by have := Hn.out; omega) (by omega) S1.out hB.1 hB.2 (by omega) H3.out H4.out
                          rw [hs2] at hc
                          have HC1 := veil hc; clear hc hB
                          go_wp2_with fail
                          refine HC1.out.mono ?_
                          rintro e w1 ⟨rfl, d3, p1, p2, S2⟩
                          have S3 : Aside (SWK encH 2 w0 blk off d3 w1) := S2
                          have HP5 := veil p1; have HP6 := veil p2
                          clear S2 p1 p2 HC1 S1
                          go_wp2
                          go_end0
                          have hd := merge_done (by omega) (by omega) (by omega) HR.out.2.2.2.2 HP2.out.1 HP2.out.2 HP5.out HP6.out
                          exact ⟨rfl, d3, permIn_trans _ _ _ _ _ HP1.out.1 hd.1, hd.2, S3.out⟩
                        | false =>
                          have hB := of_decide_eq_false HB3.out.symm
                          have HB := veil hB; clear hB
                          go_wp2
                          go_end0
                          have h5 : SortK keyH mid b d2 := by
                            have := HB.out
                            rcases Nat.eq_or_lt_of_le c5 with rfl | h
                            · exact H4.out
                            · obtain rfl : en = b := by omega
                              exact H3.out
                          have hd := merge_done (by omega) (by omega) (by omega) HR.out.2.2.2.2 HP2.out.1 HP2.out.2 (permIn_refl _ _ _) h5
                          exact ⟨rfl, d2, permIn_trans _ _ _ _ _ HP1.out.1 hd.1, hd.2, S1.out⟩
end Go.Proofs.Ythelblkpfkngmaa
