/- BestFlat returns true: it takes no more than words of one length would, and no less than a bit each. -/
import Derived.Test.YthelblkpfkngmaaBested
import Derived.Test.YthelblkpfkngmaaBestMath2
namespace Go.Proofs.Ythelblkpfkngmaa
open Go.RowKit
set_option linter.unusedVariables false
set_option linter.unusedSimpArgs false

theorem enumI_snd (zs : List Int) : (enumI zs).map (·.2) = zs := by
  apply List.ext_getElem?
  intro i
  by_cases hi : i < zs.length
  · obtain ⟨x, hx⟩ := some_at hi
    rw [List.getElem?_map, enumI_at hx, hx]; rfl
  · rw [List.getElem?_eq_none (by simp [enumI_length]; omega), List.getElem?_eq_none (by omega)]
def kindsOf (l : List Int) : Nat := (l.filter fun x => decide (0 < x)).length
theorem kinds_used (zs : List Int) : kindsOf zs = (used zs).length := by
  unfold kindsOf used
  conv => lhs; rw [← enumI_snd zs]
  rw [List.filter_map, List.length_map, List.length_map]; rfl
theorem all_used {zs : List Int} (h : ∀ x ∈ zs, 0 ≤ x) : zs.sum = (allZ zs : Int) := by
  have h1 := costSum_eq (f := fun _ => some 1) (fun s => by simp) (enumI zs) (fun p hp => by obtain ⟨k, _, h2⟩ := enumI_get hp; exact h _ (List.mem_of_getElem? h2))
  have h2 : costSum (fun _ => some 1) (enumI zs) = zs.sum := by
    unfold costSum
    conv => rhs; rw [← enumI_snd zs]
    simp
  rw [← h2, h1]
  congr 1
  unfold allZ used
  rw [show sumF (((enumI zs).filter fun p => decide (0 < p.2)).map (·.1)) (cntZ zs) = sumF ((enumI zs).filter fun p => decide (0 < p.2)) (fun p => cntZ zs p.1) by simp [sumF, List.map_map, Function.comp_def]]
  refine sumF_congr fun p hp => ?_
  obtain ⟨k, h3, h4⟩ := enumI_get (List.mem_filter.1 hp).1
  rw [h3, cntZ_at h4]; simp
theorem kinds_yes {l : List Int} {x : Int} (h : 0 < x) : kindsOf (l ++ [x]) = kindsOf l + 1 := by simp [kindsOf, h]
theorem kinds_no {l : List Int} {x : Int} (h : ¬ 0 < x) : kindsOf (l ++ [x]) = kindsOf l := by simp [kindsOf, h]
theorem sum_bound {l : List Int} (h : ∀ x ∈ l, 0 ≤ x ∧ x ≤ 9999) : 0 ≤ l.sum ∧ l.sum ≤ 9999 * (l.length : Int) := by
  induction l with
  | nil => simp
  | cons x l ih =>
    have h1 := h x (by simp)
    have h2 := ih fun y hy => h y (by simp [hy])
    simp only [List.sum_cons, List.length_cons]; omega

/-- What lies there in both loops. -/
structure FlatW (w2 : World) (ys : List Value) (v : Value) (wr : World) : Prop where
  range : wr.rangeAt w2.heap.size 0 ys
  cell : wr.cell? ⟨w2.heap.size, 16, none⟩ = some v
  below : Below w2.heap.size w2 wr
  size : w2.heap.size < wr.heap.size

set_option maxRecDepth 100000 in
set_option maxHeartbeats 4000000 in
theorem bestFlat_walk (A2 : Option Addr) (c2 : Nat) (zs : List Int) (w : World) (hz : Seen w w.heap.size A2 (ints .i64 zs)) (hzw : ∀ x ∈ zs, (Lit.int .i64 x).wf = true) (hzl : zs.length ≤ maxLen) :
    Calls Try.prog 9 #[.slice A2 zs.length c2] w fun e w' => e = .returned (.bool true) ∧ Below w.heap.size w w' := by
  clear hzw
  go_enter Try.func9, Try.ntmps9
  go_wp2_with fail
  refine (bested_any _).mono ?_
  rintro e w1 ⟨rfl, hbel1⟩
  have hz1 := hbel1.size
  have HM := veil (make_any A2 c2 w.heap.size zs w1 (hz.below hbel1 (Nat.le_refl _)) hz1 hzl)
  go_wp2_with fail
  refine HM.out.mono ?_
  rintro e w2 ⟨cs2, syms2, A', c', rfl, hM, HO, hb2⟩
  have hsy := MadeT.seen (zs := zs) (cs := cs2) HO
  have hbel2 : Below w.heap.size w w2 := hbel1.trans (hb2.mono hz1)
  have Hl2 := veil (tabCells_length (A := A') (n := syms2.length) (c := c') hM.len)
  have hone := tabCells_one (cs := cs2) (A := A') (n := syms2.length) (c := c')
  have hlast := tabCells_last (A := A') (n := syms2.length) (c := c') hM.len
  have hz2 := hbel2.size
  have HK := veil (fun w3 G h1 h2 h3 => cost_any cs2 syms2 zs A' A2 c' c2 G w3 hM.len (by have := hM.short; unfold maxLen; omega) hM.bnd h1 h2 h3 hzl)
  have Hok := veil hM.ok
  unfold tabV at HK ⊢
  generalize tabCells cs2 A' syms2.length c' = ys at *
  have d16 : (w2.alloc (.cells ys.toArray 25)).cell? ⟨w2.heap.size, 16, none⟩ = some (.slice A' syms2.length c') := by
    rw [World.cell?_alloc_at _ _ _ _ rfl]; simpa using hlast
  have hbelE : Below w.heap.size w (w2.alloc (.cells ys.toArray 25)) := hbel2.trans ((below1 w2 _).mono hz2)
  clear HM hb2 HO hM hlast
  by_cases he : errB zs = 0
  · obtain ⟨k1, k2, _, k4, L, k5, k6, _⟩ := Hok.out he
    obtain ⟨h256, hzb⟩ := errB_ok he
    have Hzb := veil hzb
    have hsl : syms2.length = kindsOf zs := by
      rw [kinds_used]
      have h1 := sumF_sub k2 (fun s hs => (k1 s).1 hs) (fun _ => 1)
      have h2 := sumF_sub (used_nodup zs) (fun s hs => (k1 s).2 hs) (fun _ => 1)
      simp only [sumF_const] at h1 h2
      omega
    have hall := all_used fun x hx => (hzb x hx).1
    have hge := cost_ge k5.code
    have Hle := veil (fun wd h1 h2 => cost_le k5 (wd := wd) h1 h2)
    have Hku := veil (kinds_used zs)
    rw [k4, k6] at HK
    rw [he]
    have Hall := veil hall; have Hsl := veil hsl
    clear k1 k2 k4 k5 k6 he Hok hzb hall hsl
    generalize costL zs L = v at *
    unfold maxLen at hzl
    have HFW : Hid (FlatW w2 ys (.slice A' syms2.length c') (w2.alloc (.cells ys.toArray 25))) := ⟨range_new w2 ys _, d16, below1 _ _, by simp⟩
    clear d16 hbelE
    go_wp2_with (first
      | (refine wpList_store_tab w2 rfl (.tmp 3) (.tmp 17) rfl ys Hl2.out hone rfl rfl ?_)
      | fail)
    go_loopg [5, 6, 23] zs.length (fun gk a kd i wr => ∃ k : Nat, gk = zs.length - k ∧ k ≤ zs.length ∧ i = .int .i64 (k : Int) ∧ a = .int .i64 ((zs.take k).sum) ∧ kd = .int .i64 (kindsOf (zs.take k) : Int) ∧ Hid (FlatW w2 ys (.slice A' syms2.length c') wr))
    case atStart => exact ⟨0, rfl, Nat.zero_le _, rfl, rfl, rfl, HFW⟩
    case round =>
      clear HFW
      obtain ⟨k, rfl, hk, rfl, rfl, rfl, HFW⟩ := hrel
      have hzs2 := (hz.below hbel2 (Nat.le_refl _)).below HFW.out.below hz2
      have hsb := sum_bound (l := zs.take k) fun x hx => Hzb.out x (List.mem_of_mem_take hx)
      have hkb : kindsOf (zs.take k) ≤ 256 := by
        have h1 := List.length_filter_le (fun x : Int => decide (0 < x)) (zs.take k)
        have h2 : (zs.take k).length ≤ 256 := by rw [List.length_take]; omega
        unfold kindsOf; omega
      have hsb2 : (zs.take k).sum ≤ 9999 * 256 := by
        have h2 : (zs.take k).length ≤ 256 := by rw [List.length_take]; omega
        omega
      have hsb1 := hsb.1
      clear hsb
      by_cases hlt : k < zs.length
      · have hltz : (k : Int) < (zs.length : Int) := by omega
        obtain ⟨g, o, x, rfl, hg, hx, hcx⟩ := hzs2.int hlt
        have hxb := Hzb.out x (List.mem_of_getElem? hx)
        have HS : Hid ((zs.take (k + 1)).sum = (zs.take k).sum + x) := by show _ = _; rw [take_snoc hx]; simp
        have HQ := veil (take_snoc hx)
        clear hx
        by_cases hx0 : 0 < x
        · have HQ2 : Hid (kindsOf (zs.take (k + 1)) = kindsOf (zs.take k) + 1) := by show _ = _; rw [HQ.out, kinds_yes hx0]
          clear HQ
          generalize (zs.take k).sum = sm at *
          generalize kindsOf (zs.take k) = kd at *
          go_wp2_with fail
          go_roundg (zs.length - (k + 1))
          case rel => exact ⟨k + 1, rfl, by omega, by go_num, by rw [HS.out], by rw [HQ2.out]; go_num, HFW⟩
          case measure => omega
        · have HQ2 : Hid (kindsOf (zs.take (k + 1)) = kindsOf (zs.take k)) := by show _ = _; rw [HQ.out, kinds_no hx0]
          clear HQ
          generalize (zs.take k).sum = sm at *
          generalize kindsOf (zs.take k) = kd at *
          go_wp2_with fail
          go_roundg (zs.length - (k + 1))
          case rel => exact ⟨k + 1, rfl, by omega, by go_num, by rw [HS.out], by rw [HQ2.out], HFW⟩
          case measure => omega
      · have hltz : ¬ (k : Int) < (zs.length : Int) := by omega
        have htk : zs.take k = zs := List.take_of_length_le (by omega)
        rw [htk] at hsb1 hsb2 hkb ⊢
        clear htk
        rw [Hall.out] at hsb1 hsb2 ⊢
        have HkU : Hid (kindsOf zs = (used zs).length) := Hku.out
        have HsL : Hid (syms2.length = kindsOf zs) := Hsl.out
        have hgei : (allZ zs : Int) ≤ (v : Int) := by omega
        generalize kindsOf zs = kd at *
        generalize allZ zs = al at *
        clear Hall Hku Hsl hge
        go_wp2_with fail
        go_loopg [9] 10 (fun gk i wr => ∃ d : Nat, gk = 10 - d ∧ d ≤ 9 ∧ i = .int .i64 (d : Int) ∧ Hid (FlatW w2 ys (.slice A' syms2.length c') wr))
        case atStart => exact ⟨0, rfl, by omega, rfl, HFW⟩
        case round =>
          clear HFW hzs2
          obtain ⟨d, rfl, hd, rfl, HFW⟩ := hrel
          have hp9 : 2 ^ d ≤ 2 ^ 9 := Nat.pow_le_pow_right (by omega) hd
          have e9 : 2 ^ 9 = 512 := by decide
          obtain ⟨P, hP⟩ : ∃ P, P = 2 ^ d := ⟨_, rfl⟩
          have hPle : P ≤ 512 := by omega
          have hw : wrap64 ((2 : Int) ^ d) = (P : Int) := by
            have : ((2 : Int) ^ d) = ((2 ^ d : Nat) : Int) := by simp
            rw [this, ← hP]; unfold wrap64; omega
          have HP := veil hP
          have hd9 : Hid (d = 9 → P = 512) := fun h => by rw [HP.out, h]
          have Hw := veil hw
          clear hP hp9 e9 hw
          by_cases hlt2 : P < kd + 1
          · have hlz : (P : Int) < (kd : Int) + 1 := by omega
            have hd8 : d < 9 := by
              rcases Nat.lt_or_ge d 9 with h | h
              · exact h
              · have := hd9.out (by omega); omega
            have hw := Hw.out
            go_wp2_with fail
            clear hw
            go_roundg (10 - (d + 1))
            case rel => exact ⟨d + 1, rfl, by omega, by go_num, HFW⟩
            case measure => omega
          · have hlz : ¬ (P : Int) < (kd : Int) + 1 := by omega
            have hup := Hle.out d (by omega) (by rw [← HkU.out, ← HP.out]; omega)
            have hq : (v : Int) ≤ (al : Int) * (d : Int) := by
              have : ((al * d : Nat) : Int) = (al : Int) * (d : Int) := by simp
              omega
            have hq2 : 0 ≤ (al : Int) * (d : Int) ∧ (al : Int) * (d : Int) ≤ 2559744 * 9 := by
              refine ⟨by omega, ?_⟩
              have h1 : (al : Int) * (d : Int) ≤ 2559744 * (d : Int) := Int.mul_le_mul_of_nonneg_right (by omega) (by omega)
              omega
            have hkk : ((syms2.length : Int) == (kd : Int)) = true := by rw [HsL.out]; simp
            clear hup hd9
            have hw := Hw.out
            go_wp2_with (first
              | (refine wpList_load_mid rfl 25 (.tmp 3) rfl w2.heap.size 0 rfl ys _ HFW.out.range Try.underlying25 rfl (by rw [Hl2.out]; exact info_tab) ?_)
              | fail)
            clear hw
            have hzw := HFW.out.below.size
            refine (HK.out _ w2.heap.size (hsy.below HFW.out.below (Nat.le_refl _)) (((hz.below hbel2 (Nat.le_refl _)).up hz2).below HFW.out.below (Nat.le_refl _)) hzw).mono ?_
            rintro e w5 ⟨rfl, hb5⟩
            have hbel5 : Below w.heap.size w w5 := (hbel2.trans (HFW.out.below.mono hz2)).trans (hb5.mono (by omega))
            have d16' := (hb5.cell (p := ⟨w2.heap.size, 16, none⟩) HFW.out.size).trans HFW.out.cell
            go_wp2
            go_ret
            exact ⟨by simp [hgei, hq, hkk], hbel5⟩
  · have hne : (errB zs != 0) = true := by simpa using he
    clear he Hok HK
    generalize errB zs = E at *
    go_wp2_with (first
      | (refine wpList_store_tab w2 rfl (.tmp 3) (.tmp 17) rfl ys Hl2.out hone rfl rfl ?_)
      | fail)
    go_ret
    exact ⟨rfl, hbelE⟩
end Go.Proofs.Ythelblkpfkngmaa
