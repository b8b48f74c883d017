/- Texts shared by the claims of this seat, in one. -/
import Derived.Test.YtddkhkpdbjjboaaGreatBd10
import Derived.Test.YtddkhkpdbjjboaaGreatBd2
import Derived.Test.YtddkhkpdbjjboaaGreatBd8
import Derived.Test.YtddkhkpdbjjboaaGreatBd9
import Derived.Test.YtddkhkpdbjjboaaGreatBd1
import Derived.Great.BuildSlice
import Derived.Laws.MakeOwn
/- seg's token reader: firstToken, its contract. -/
namespace Go.Proofs.YtddkhkpdbjjboaaGreat
open Go.RowKit
set_option linter.unusedVariables false
set_option linter.unusedSimpArgs false
set_option maxRecDepth 100000

set_option maxRecDepth 100000 in
set_option maxHeartbeats 2000000 in
theorem firstToken_any (A : Option Addr) (c G g : Nat) (bs : List Int) (b1 n1 : Nat) (fw : List (Int × Nat × Nat)) (b2 n2 : Nat) (rw_ : List (Int × Nat × Nat)) (w : World) (s : List Bool) (h : TR A c G g bs b1 n1 fw b2 n2 rw_ w s) (hby : Bytes bs)
    (hpf : PF fw) (hsm : ∀ t ∈ fw, 0 ≤ t.1 ∧ t.1 ≤ 255) :
    Calls Tryz.prog 49 #[.pointer (some ⟨g, 0, none⟩)] w fun e w' => NextPost (TR A c G g bs b1 n1 fw b2 n2 rw_) g w (stepS fw rw_ true s) e w' := by
  obtain ⟨at_, hR, HM1, HM2, hb1g, hb2g, hs⟩ := h
  obtain ⟨Z, hZ⟩ : ∃ Z, Z = stepS fw rw_ true s := ⟨_, rfl⟩
  rw [← hZ]
  have HZ := veil hZ
  have hgl := hR.blk.lt
  have hle := hR.le
  have hfew := hR.few
  have hl1 := HM1.lt
  have hl2 := HM2.lt
  have hb0 := below1 w (.cells (tokL (0, 0, 0)).toArray 73)
  have HB := Blk.new w (tokL (0, 0, 0)) 73
  have hz0 : (w.alloc (.cells (tokL (0, 0, 0)).toArray 73)).heap.size = w.heap.size + 1 := by simp
  have hR0 := hR.below hb0 hgl
  have hM1 := HM1.below hb0 hl1
  have hM2 := HM2.below hb0 hl2
  have hc := hR0.blk.cell (i := 2) (v := .map (some b1)) rfl
  have HY := veil (symbol_any A c G g bs _ _ at_ b1 n1 fw _ hR0 hby hM1 hpf hb1g)
  rw [← hs] at HY
  have HT := veil (fun at2 (d : Nat) (S : Int) (W : World) (hr : Rd A c G g bs (.map (some b1)) (.map (some b2)) at2 W) (hd : d ≤ 24) => segToken_any A c G g bs _ _ at2 d S W hr hd hby)
  have hg0 : w.grownBy (w.alloc (.cells (tokL (0, 0, 0)).toArray 73)) (some g) := grown_below (World.grownBy.refl w _) hb0 (Nat.le_refl _)
  have hS := nextS_wf (b := s) hsm
  have hsl : s.length = 8 * bs.length - at_ := by rw [hs, List.length_drop, unpack_length]
  have hnl := nextL_le (ws := fw) (b := s)
  have Hs := veil hs
  have Hsl := veil hsl
  have hone0 := tokL_one (0, 0, 0)
  clear hR hR0 HM1 HM2 hb0 hsm hs hpf hsl hZ
  go_enter Tryz.func49, Tryz.ntmps49
  go_wp2_with fail
  refine HY.out.mono ?_
  rintro e w2 ⟨rfl, hg1, hRk⟩
  have hg2 : w.grownBy w2 (some g) := hg0.trans hg1
  have hB2 := HB.kept hg1 (by simp; omega)
  have hM1b := hM1.kept hg1 hb1g
  have hM2b := hM2.kept hg1 hb2g
  clear HY hM1 hM2 hg1 HB hc
  by_cases hE : nextE fw s = 0
  · have hR2 := hRk hE
    rw [hE]
    have HE := veil hE
    obtain ⟨d, hd⟩ : ∃ d : Nat, nextS fw s = (d : Int) := ⟨(nextS fw s).toNat, by omega⟩
    rw [hd]
    have Hwid : Hid (widS true (nextS (wsOf fw rw_ true) s) = (d : Int)) := hd
    have HSS : Hid ((d : Int) = nextS fw s) := hd.symm
    rw [hd] at hS
    clear hRk hE hd
    by_cases hw : 12 < d
    · have HW := veil (stepS_wide (fw := fw) (rw_ := rw_) (first := true) (s := s) HE.out (by rw [Hwid.out]; left; omega))
      have hwz : (12 : Int) < (d : Int) := by omega
      clear hw hR2
      go_wp2_with (first
        | (refine wpList_store_blk w2 rfl 73 (.tmp 2) (.tmp 21) rfl w.heap.size (tokL (0, 0, 0)) (tokL (0, 0, 0)) 73 hB2 rfl rfl info_tok3 rfl hone0 ?_; intro w5 HB7 hg7)
        | fail)
      exact bodyPost_ret (results_row_tmp rfl _ _ w.heap.size 73 (tokL (0, 0, 0)).toArray (0, 0) _ (.int .i64 4) rfl rfl HB7 Tryz.underlying73 rfl (by simp only [List.size_toArray]; exact info_tok3)) rfl (by rw [HZ.out, HW.out]; exact ⟨rfl, grown_grown hg2 hg7 (Nat.le_refl _)⟩)
    · have hwz : ¬ (12 : Int) < (d : Int) := by omega
      have HTd := veil (HT.out (at_ + nextL fw s) d (d : Int) w2 hR2 (by omega))
      have Hw := veil hw
      clear hw
      go_wp2_with fail
      refine HTd.out.mono ?_
      rintro e w3 ⟨hok, hsh⟩
      by_cases hin : at_ + nextL fw s + d ≤ 8 * bs.length
      · obtain ⟨rfl, hR3, hg3⟩ := hok hin
        have HO := veil (stepS_ok (fw := fw) (rw_ := rw_) (first := true) (s := s) HE.out Hwid.out (by have := Hw.out; simp; omega) (by show ¬ (s.drop (nextL fw s)).length < d; have h9 := Hsl.out; rw [List.length_drop]; omega))
        have hB3 := hB2.kept hg3 (by simp; omega)
        have hg4 : w.grownBy w3 (some g) := hg2.trans hg3
        have hM1c := hM1b.kept hg3 hb1g
        have hM2c := hM2b.kept hg3 hb2g
        have hsd : (unpack bs).drop (at_ + nextL fw s) = s.drop (nextL fw s) := by rw [Hs.out, List.drop_drop]
        rw [hsd]
        obtain ⟨X, hX⟩ : ∃ X : Nat, X = valB ((s.drop (nextL fw s)).take d) := ⟨_, rfl⟩
        rw [← hX]
        have hone := tokL_one ((d : Int), (d : Int), (X : Int))
        have HTR : Hid (∀ W, w3.grownBy W (some w.heap.size) → TR A c G g bs b1 n1 fw b2 n2 rw_ W ((s.drop (nextL fw s)).drop d)) := fun W hW => ⟨at_ + nextL fw s + d, hR3.kept hW (by omega) (by have := hR3.low; omega), hM1c.kept hW (by omega), hM2c.kept hW (by omega), hb1g, hb2g, by rw [← hsd, List.drop_drop]⟩
        have HOZ : Hid (Z = .inr (((d : Int), (d : Int), (X : Int)), (s.drop (nextL fw s)).drop d)) := by
          show _ = _
          rw [HZ.out, HO.out]; show Sum.inr ((nextS fw s, (d : Int), (valB ((s.drop (nextL fw s)).take d) : Int)), (s.drop (nextL fw s)).drop d) = _; rw [← hX, ← HSS.out]
        clear hok hsh hin hR3 hX HO hsd hg3 hg2 hM1b hM2b hB2 hM1c hM2c HT HTd hR2
        unfold tokV
        go_wp2_with (first
          | (refine wpList_store_blk w3 rfl 73 (.tmp 2) (.tmp 26) rfl w.heap.size (tokL (0, 0, 0)) (tokL ((d : Int), (d : Int), (X : Int))) 73 hB3 rfl rfl info_tok3 rfl hone ?_; intro w5 HB7 hg7)
          | fail)
        exact bodyPost_ret (results_row_tmp rfl _ _ w.heap.size 73 (tokL ((d : Int), (d : Int), (X : Int))).toArray (0, 0) _ (.int .i64 0) rfl rfl HB7 Tryz.underlying73 rfl (by simp only [List.size_toArray]; exact info_tok3)) rfl (by rw [HOZ.out]; exact ⟨rfl, grown_grown hg4 hg7 (Nat.le_refl _), HTR.out _ hg7⟩)
      · obtain ⟨rfl, hg3⟩ := hsh (by omega)
        have HO := veil (stepS_short (fw := fw) (rw_ := rw_) (first := true) (s := s) HE.out Hwid.out (by have := Hw.out; simp; omega) (by show (s.drop (nextL fw s)).length < d; have h9 := Hsl.out; rw [List.length_drop]; omega))
        have hB3 := hB2.kept hg3 (by simp; omega)
        have hg4 : w.grownBy w3 (some g) := hg2.trans hg3
        clear hok hsh hin hg3 hg2 hM1b hM2b hB2 HT HTd hR2
        unfold tokV
        go_wp2_with (first
          | (refine wpList_store_blk w3 rfl 73 (.tmp 2) (.tmp 26) rfl w.heap.size (tokL (0, 0, 0)) (tokL (0, 0, 0)) 73 hB3 rfl rfl info_tok3 rfl hone0 ?_; intro w5 HB7 hg7)
          | fail)
        exact bodyPost_ret (results_row_tmp rfl _ _ w.heap.size 73 (tokL (0, 0, 0)).toArray (0, 0) _ (.int .i64 3) rfl rfl HB7 Tryz.underlying73 rfl (by simp only [List.size_toArray]; exact info_tok3)) rfl (by rw [HZ.out, HO.out]; exact ⟨rfl, grown_grown hg4 hg7 (Nat.le_refl _)⟩)
  · have HO := veil (stepS_err (fw := fw) (rw_ := rw_) (first := true) (s := s) hE)
    have hne : (nextE fw s != 0) = true := by simpa using hE
    obtain ⟨E, hEE⟩ : ∃ E, E = nextE fw s := ⟨_, rfl⟩
    rw [← hEE] at hne ⊢
    have HEE : Hid (Z = .inl E) := by show _ = _; rw [HZ.out, HO.out, hEE]; rfl
    clear hRk hE HO hM1b hM2b HT hEE
    go_wp2_with (first
      | (refine wpList_store_blk w2 rfl 73 (.tmp 2) (.tmp 17) rfl w.heap.size (tokL (0, 0, 0)) (tokL (0, 0, 0)) 73 hB2 rfl rfl info_tok3 rfl hone0 ?_; intro w5 HB7 hg7)
      | fail)
    exact bodyPost_ret (results_row_tmp rfl _ _ w.heap.size 73 (tokL (0, 0, 0)).toArray (0, 0) _ (.int .i64 E) rfl rfl HB7 Tryz.underlying73 rfl (by simp only [List.size_toArray]; exact info_tok3)) rfl (by rw [HEE.out]; exact ⟨rfl, grown_grown hg2 hg7 (Nat.le_refl _)⟩)
end Go.Proofs.YtddkhkpdbjjboaaGreat

/- seg's token reader: restToken, its contract. -/
namespace Go.Proofs.YtddkhkpdbjjboaaGreat
open Go.RowKit
set_option linter.unusedVariables false
set_option linter.unusedSimpArgs false
set_option maxRecDepth 100000

set_option maxRecDepth 100000 in
set_option maxHeartbeats 2000000 in
theorem restToken_any (A : Option Addr) (c G g : Nat) (bs : List Int) (b1 n1 : Nat) (fw : List (Int × Nat × Nat)) (b2 n2 : Nat) (rw_ : List (Int × Nat × Nat)) (w : World) (s : List Bool) (h : TR A c G g bs b1 n1 fw b2 n2 rw_ w s) (hby : Bytes bs)
    (hpf : PF rw_) (hsm : ∀ t ∈ rw_, 0 ≤ t.1 ∧ t.1 ≤ 255) :
    Calls Tryz.prog 51 #[.pointer (some ⟨g, 0, none⟩)] w fun e w' => NextPost (TR A c G g bs b1 n1 fw b2 n2 rw_) g w (stepS fw rw_ false s) e w' := by
  obtain ⟨at_, hR, HM1, HM2, hb1g, hb2g, hs⟩ := h
  obtain ⟨Z, hZ⟩ : ∃ Z, Z = stepS fw rw_ false s := ⟨_, rfl⟩
  rw [← hZ]
  have HZ := veil hZ
  have hgl := hR.blk.lt
  have hle := hR.le
  have hfew := hR.few
  have hl1 := HM1.lt
  have hl2 := HM2.lt
  have hb0 := below1 w (.cells (tokL (0, 0, 0)).toArray 73)
  have HB := Blk.new w (tokL (0, 0, 0)) 73
  have hz0 : (w.alloc (.cells (tokL (0, 0, 0)).toArray 73)).heap.size = w.heap.size + 1 := by simp
  have hR0 := hR.below hb0 hgl
  have hM1 := HM1.below hb0 hl1
  have hM2 := HM2.below hb0 hl2
  have hc := hR0.blk.cell (i := 3) (v := .map (some b2)) rfl
  have HY := veil (symbol_any A c G g bs _ _ at_ b2 n2 rw_ _ hR0 hby hM2 hpf hb2g)
  rw [← hs] at HY
  have HT := veil (fun at2 (d : Nat) (S : Int) (W : World) (hr : Rd A c G g bs (.map (some b1)) (.map (some b2)) at2 W) (hd : d ≤ 24) => segToken_any A c G g bs _ _ at2 d S W hr hd hby)
  have hg0 : w.grownBy (w.alloc (.cells (tokL (0, 0, 0)).toArray 73)) (some g) := grown_below (World.grownBy.refl w _) hb0 (Nat.le_refl _)
  have hS := nextS_wf (b := s) hsm
  have hsl : s.length = 8 * bs.length - at_ := by rw [hs, List.length_drop, unpack_length]
  have hnl := nextL_le (ws := rw_) (b := s)
  have Hs := veil hs
  have Hsl := veil hsl
  have hone0 := tokL_one (0, 0, 0)
  clear hR hR0 HM1 HM2 hb0 hsm hs hpf hsl hZ
  go_enter Tryz.func51, Tryz.ntmps51
  go_wp2_with fail
  refine HY.out.mono ?_
  rintro e w2 ⟨rfl, hg1, hRk⟩
  have hg2 : w.grownBy w2 (some g) := hg0.trans hg1
  have hB2 := HB.kept hg1 (by simp; omega)
  have hM1b := hM1.kept hg1 hb1g
  have hM2b := hM2.kept hg1 hb2g
  clear HY hM1 hM2 hg1 HB hc
  by_cases hE : nextE rw_ s = 0
  · have hR2 := hRk hE
    rw [hE]
    have HE := veil hE
    obtain ⟨d, hd⟩ : ∃ d : Nat, nextS rw_ s % 16 = (d : Int) := ⟨(nextS rw_ s % 16).toNat, by omega⟩
    obtain ⟨S, hSS⟩ : ∃ S, S = nextS rw_ s := ⟨_, rfl⟩
    have Hwid : Hid (widS false (nextS (wsOf fw rw_ false) s) = (d : Int)) := hd
    rw [← hSS] at hS hd ⊢
    have HSS : Hid (S = nextS rw_ s) := hSS
    have hdm : S.tmod 16 = (d : Int) := by rw [Int.tmod_eq_emod_of_nonneg (by omega)]; exact hd
    clear hRk hE hSS
    by_cases hw : 11 < d
    · have HW := veil (stepS_wide (fw := fw) (rw_ := rw_) (first := false) (s := s) HE.out (by rw [Hwid.out]; right; exact ⟨rfl, by omega⟩))
      have hwz : (11 : Int) < (d : Int) := by omega
      clear hw hR2
      go_wp2_with (first
        | (refine wpList_store_blk w2 rfl 73 (.tmp 2) (.tmp 22) rfl w.heap.size (tokL (0, 0, 0)) (tokL (0, 0, 0)) 73 hB2 rfl rfl info_tok3 rfl hone0 ?_; intro w5 HB7 hg7)
        | fail)
      exact bodyPost_ret (results_row_tmp rfl _ _ w.heap.size 73 (tokL (0, 0, 0)).toArray (0, 0) _ (.int .i64 4) rfl rfl HB7 Tryz.underlying73 rfl (by simp only [List.size_toArray]; exact info_tok3)) rfl (by rw [HZ.out, HW.out]; exact ⟨rfl, grown_grown hg2 hg7 (Nat.le_refl _)⟩)
    · have hwz : ¬ (11 : Int) < (d : Int) := by omega
      have HTd := veil (HT.out (at_ + nextL rw_ s) d S w2 hR2 (by omega))
      have Hw := veil hw
      clear hw
      go_wp2_with fail
      refine HTd.out.mono ?_
      rintro e w3 ⟨hok, hsh⟩
      by_cases hin : at_ + nextL rw_ s + d ≤ 8 * bs.length
      · obtain ⟨rfl, hR3, hg3⟩ := hok hin
        have HO := veil (stepS_ok (fw := fw) (rw_ := rw_) (first := false) (s := s) HE.out Hwid.out (by have := Hw.out; simp; omega) (by show ¬ (s.drop (nextL rw_ s)).length < d; have h9 := Hsl.out; rw [List.length_drop]; omega))
        have hB3 := hB2.kept hg3 (by simp; omega)
        have hg4 : w.grownBy w3 (some g) := hg2.trans hg3
        have hM1c := hM1b.kept hg3 hb1g
        have hM2c := hM2b.kept hg3 hb2g
        have hsd : (unpack bs).drop (at_ + nextL rw_ s) = s.drop (nextL rw_ s) := by rw [Hs.out, List.drop_drop]
        rw [hsd]
        obtain ⟨X, hX⟩ : ∃ X : Nat, X = valB ((s.drop (nextL rw_ s)).take d) := ⟨_, rfl⟩
        rw [← hX]
        have hone := tokL_one (S, (d : Int), (X : Int))
        have HTR : Hid (∀ W, w3.grownBy W (some w.heap.size) → TR A c G g bs b1 n1 fw b2 n2 rw_ W ((s.drop (nextL rw_ s)).drop d)) := fun W hW => ⟨at_ + nextL rw_ s + d, hR3.kept hW (by omega) (by have := hR3.low; omega), hM1c.kept hW (by omega), hM2c.kept hW (by omega), hb1g, hb2g, by rw [← hsd, List.drop_drop]⟩
        have HOZ : Hid (Z = .inr ((S, (d : Int), (X : Int)), (s.drop (nextL rw_ s)).drop d)) := by
          show _ = _
          rw [HZ.out, HO.out]; show Sum.inr ((nextS rw_ s, (d : Int), (valB ((s.drop (nextL rw_ s)).take d) : Int)), (s.drop (nextL rw_ s)).drop d) = _; rw [← hX, ← HSS.out]
        clear hok hsh hin hR3 hX HO hsd hg3 hg2 hM1b hM2b hB2 hM1c hM2c HT HTd hR2
        unfold tokV
        go_wp2_with (first
          | (refine wpList_store_blk w3 rfl 73 (.tmp 2) (.tmp 28) rfl w.heap.size (tokL (0, 0, 0)) (tokL (S, (d : Int), (X : Int))) 73 hB3 rfl rfl info_tok3 rfl hone ?_; intro w5 HB7 hg7)
          | fail)
        exact bodyPost_ret (results_row_tmp rfl _ _ w.heap.size 73 (tokL (S, (d : Int), (X : Int))).toArray (0, 0) _ (.int .i64 0) rfl rfl HB7 Tryz.underlying73 rfl (by simp only [List.size_toArray]; exact info_tok3)) rfl (by rw [HOZ.out]; exact ⟨rfl, grown_grown hg4 hg7 (Nat.le_refl _), HTR.out _ hg7⟩)
      · obtain ⟨rfl, hg3⟩ := hsh (by omega)
        have HO := veil (stepS_short (fw := fw) (rw_ := rw_) (first := false) (s := s) HE.out Hwid.out (by have := Hw.out; simp; omega) (by show (s.drop (nextL rw_ s)).length < d; have h9 := Hsl.out; rw [List.length_drop]; omega))
        have hB3 := hB2.kept hg3 (by simp; omega)
        have hg4 : w.grownBy w3 (some g) := hg2.trans hg3
        clear hok hsh hin hg3 hg2 hM1b hM2b hB2 HT HTd hR2
        unfold tokV
        go_wp2_with (first
          | (refine wpList_store_blk w3 rfl 73 (.tmp 2) (.tmp 28) rfl w.heap.size (tokL (0, 0, 0)) (tokL (0, 0, 0)) 73 hB3 rfl rfl info_tok3 rfl hone0 ?_; intro w5 HB7 hg7)
          | fail)
        exact bodyPost_ret (results_row_tmp rfl _ _ w.heap.size 73 (tokL (0, 0, 0)).toArray (0, 0) _ (.int .i64 3) rfl rfl HB7 Tryz.underlying73 rfl (by simp only [List.size_toArray]; exact info_tok3)) rfl (by rw [HZ.out, HO.out]; exact ⟨rfl, grown_grown hg4 hg7 (Nat.le_refl _)⟩)
  · have HO := veil (stepS_err (fw := fw) (rw_ := rw_) (first := false) (s := s) hE)
    have hne : (nextE rw_ s != 0) = true := by simpa using hE
    obtain ⟨E, hEE⟩ : ∃ E, E = nextE rw_ s := ⟨_, rfl⟩
    rw [← hEE] at hne ⊢
    have HEE : Hid (Z = .inl E) := by show _ = _; rw [HZ.out, HO.out, hEE]; rfl
    clear hRk hE HO hM1b hM2b HT hEE
    go_wp2_with (first
      | (refine wpList_store_blk w2 rfl 73 (.tmp 2) (.tmp 17) rfl w.heap.size (tokL (0, 0, 0)) (tokL (0, 0, 0)) 73 hB2 rfl rfl info_tok3 rfl hone0 ?_; intro w5 HB7 hg7)
      | fail)
    exact bodyPost_ret (results_row_tmp rfl _ _ w.heap.size 73 (tokL (0, 0, 0)).toArray (0, 0) _ (.int .i64 E) rfl rfl HB7 Tryz.underlying73 rfl (by simp only [List.size_toArray]; exact info_tok3)) rfl (by rw [HEE.out]; exact ⟨rfl, grown_grown hg2 hg7 (Nat.le_refl _)⟩)
end Go.Proofs.YtddkhkpdbjjboaaGreat

/- A block read token by token, each looked at by Block before the next one is read: it comes to the reader over the source. No program is named here. -/
namespace Go.Proofs.YtddkhkpdbjjboaaGreat
set_option linter.unusedVariables false
set_option linter.unusedSimpArgs false
set_option maxRecDepth 100000

theorem decQ_shape : ∀ (l : List (Int × Int × Int)) (k : Nat), (decQ k l).1 ≠ 0 → decQ k l = ((decQ k l).1, [], 0)
  | l, 0, h => by rw [decQ_zero] at h; exact absurd rfl h
  | [], k + 1, _ => rfl
  | t :: l, k + 1, h => by
    rw [decQ] at h ⊢
    by_cases h1 : okQ t = true
    · rw [if_pos h1] at h ⊢
      by_cases h2 : t.1 = 0
      · rw [if_pos h2] at h; exact absurd rfl h
      · rw [if_neg h2] at h ⊢
        by_cases h3 : k + 1 < farT t
        · rw [if_pos h3]
        · rw [if_neg h3] at h ⊢
          simp only [] at h ⊢
          by_cases h4 : (decQ (k + 1 - farT t) l).1 = 0
          · rw [if_pos h4] at h; exact absurd rfl h
          · rw [if_neg h4]
    · rw [if_neg h1]
/-- These tokens tell pre, and k numbers are left to tell. -/
structure RunQ (k0 : Nat) (l : List (Int × Int × Int)) (pre : List Int) (k : Nat) : Prop where
  pos : 0 < k
  few : l.length + k ≤ k0
  eq : ∀ m, decQ k0 (l ++ m) = joinQ pre l.length (decQ k m)
theorem RunQ.start {k : Nat} (h : 0 < k) : RunQ k [] [] k where
  pos := h
  few := by simp
  eq m := by
    rw [List.nil_append]
    unfold joinQ
    by_cases h0 : (decQ k m).1 = 0
    · rw [if_pos h0, List.nil_append, List.length_nil, Nat.zero_add, ← h0]
    · rw [if_neg h0]; exact decQ_shape m k h0
theorem RunQ.next {k0 : Nat} {l : List (Int × Int × Int)} {pre : List Int} {k : Nat} (h : RunQ k0 l pre k) {t : Int × Int × Int} (ht : okQ t = true) (h0 : t.1 ≠ 0) (hf : farT t < k) :
    RunQ k0 (l ++ [t]) (pre ++ (List.replicate (farT t - 1) 0 ++ [numT t])) (k - farT t) where
  pos := by omega
  few := by have := h.few; have : 0 < farT t := by unfold farT; omega
            simp only [List.length_append, List.length_singleton]; omega
  eq m := by
    rw [List.append_assoc, List.singleton_append, h.eq, joinQ_next _ _ ht h0 (by omega), List.length_append, List.length_singleton]
section
variable {σ : Type} (step : Bool → σ → Int ⊕ ((Int × Int × Int) × σ))
/-- Where a reading stands: the tokens so far, and the source behind them. -/
def SBInv (before : Int) (D : Int × List Int × List (Int × Int × Int) × Option σ) (toks : List (Int × Int × Int)) (s : σ) : Prop :=
  (toks = [] ∧ D = gB step before s) ∨ (∃ t0 tl pre k, toks = t0 :: tl ∧ firstT before t0 ∧ RunQ 63 tl pre k ∧ D = finG before (joinG ((before + numT t0) :: pre) toks (gR step k s)))
variable {step}
theorem SBInv.few {before : Int} {D : Int × List Int × List (Int × Int × Int) × Option σ} {toks : List (Int × Int × Int)} {s : σ} (h : SBInv step before D toks s) : toks.length ≤ 63 := by
  rcases h with ⟨rfl, _⟩ | ⟨t0, tl, pre, k, rfl, _, h, _⟩
  · simp
  · have := h.few; have := h.pos; simp only [List.length_cons]; omega
theorem SBInv.err {before : Int} {D : Int × List Int × List (Int × Int × Int) × Option σ} {toks : List (Int × Int × Int)} {s : σ} (h : SBInv step before D toks s) {er : Int} (hs : step toks.isEmpty s = .inl er) (hne : er ≠ 0) : D = (er, [], [], none) := by
  rcases h with ⟨rfl, hD⟩ | ⟨t0, tl, pre, k, rfl, _, h, hD⟩
  · rw [hD, gB_none hs]
  · rw [hD, joinG_none _ _ h.pos hne hs]; unfold finG; rw [if_neg hne]
theorem okT_of {t : Int × Int × Int} (h : okQ t = true) (h2 : t.1 ≤ 255) : okT t = true := by
  unfold okQ at h
  unfold okT
  rw [Bool.and_eq_true] at h ⊢
  have h3 := of_decide_eq_true h.2
  exact ⟨h.1, decide_eq_true ⟨h3.1, h2, h3.2⟩⟩
theorem okT_not {t : Int × Int × Int} (h : okQ t = false) : okT t = false := by
  cases hT : okT t with
  | false => rfl
  | true => rw [okT_okQ hT] at h; cases h
/-- What Block answers of the tokens with one more. -/
theorem SBInv.go {before : Int} {D : Int × List Int × List (Int × Int × Int) × Option σ} {toks : List (Int × Int × Int)} {s s2 : σ} {t : Int × Int × Int} (h : SBInv step before D toks s) (hs : step toks.isEmpty s = .inr (t, s2)) (ht : t.1 ≤ 255) (hb : -2047 ≤ before ∧ before ≤ 2047) :
    ((decP before (toks ++ [t])).1 = 3 ∧ SBInv step before D (toks ++ [t]) s2) ∨
    ((decP before (toks ++ [t])).1 ≠ 3 ∧ D.1 = (decP before (toks ++ [t])).1 ∧ D.2.1 = (decP before (toks ++ [t])).2.1 ∧ (D.1 = 0 → D.2.2 = (toks ++ [t], some s2)) ∧ (D.1 ≠ 0 → D.2.2 = ([], none))) := by
  have e0 : ¬ (before < -2047 ∨ 2047 < before) := by omega
  rcases h with ⟨rfl, hD⟩ | ⟨t0, tl, pre, k, rfl, hf, h, hD⟩
  · by_cases h1 : firstT before t
    · left
      have e1 : decP before [t] = (3, [], 0) := by
        unfold decP; rw [if_neg e0]; simp only []; rw [if_pos h1]; rfl
      refine ⟨by rw [List.nil_append, e1], .inr ⟨t, [], [], 63, rfl, h1, .start (by omega), ?_⟩⟩
      rw [hD, gB_go hs h1]; rfl
    · right
      have e1 : decP before [t] = (4, [], 0) := by
        unfold decP; rw [if_neg e0]; simp only []; rw [if_neg h1]
      rw [List.nil_append, e1, hD, gB_bad hs h1]
      exact ⟨by decide, rfl, rfl, fun h => by simp at h, fun _ => rfl⟩
  · have e1 : decP before (t0 :: tl ++ [t]) = if (decQ 63 (tl ++ [t])).1 = 0 then (if toksZ before ((before + numT t0) :: (decQ 63 (tl ++ [t])).2.1) = t0 :: (tl ++ [t]).take (decQ 63 (tl ++ [t])).2.2 then (0, (before + numT t0) :: (decQ 63 (tl ++ [t])).2.1, (decQ 63 (tl ++ [t])).2.2 + 1) else (4, [], 0)) else ((decQ 63 (tl ++ [t])).1, [], 0) := by
      rw [List.cons_append]; unfold decP; rw [if_neg e0]; exact if_pos hf
    have e2 := h.eq [t]
    have hs' : step false s = .inr (t, s2) := hs
    by_cases h1 : okQ t = true
    · have hT := okT_of h1 ht
      by_cases h2 : t.1 = 0
      · right
        rw [joinQ_end _ _ h.pos h1 h2] at e2
        rw [joinG_end _ _ h.pos hs' hT h2] at hD
        rw [e2] at e1
        simp only [if_true] at e1
        rw [List.take_of_length_le (by simp)] at e1
        unfold finG at hD
        simp only [if_true, List.cons_append] at hD
        by_cases h3 : toksZ before ((before + numT t0) :: (pre ++ List.replicate k 0)) = t0 :: (tl ++ [t])
        · rw [if_pos h3] at e1 hD
          rw [e1, hD]
          exact ⟨by simp, rfl, rfl, fun _ => rfl, fun h => absurd rfl h⟩
        · rw [if_neg h3] at e1 hD
          rw [e1, hD]
          exact ⟨by simp, rfl, rfl, fun h => by simp at h, fun _ => rfl⟩
      · by_cases h4 : k < farT t
        · right
          rw [joinQ_far _ _ h.pos h1 h2 h4] at e2
          rw [joinG_far _ _ h.pos hs' hT h2 h4] at hD
          rw [e2] at e1
          rw [if_neg (by simp)] at e1
          rw [e1, hD]
          exact ⟨by simp, rfl, rfl, fun h => by simp [finG] at h, fun _ => rfl⟩
        · rw [joinG_next _ _ hs' hT h2 (by omega)] at hD
          by_cases h5 : farT t = k
          · right
            rw [joinQ_next _ _ h1 h2 (by omega), h5, Nat.sub_self, joinQ_all] at e2
            rw [h5, Nat.sub_self, joinG_all] at hD
            rw [e2] at e1
            simp only [if_true] at e1
            rw [List.take_of_length_le (by simp)] at e1
            unfold finG at hD
            simp only [if_true, List.cons_append] at hD
            by_cases h3 : toksZ before ((before + numT t0) :: (pre ++ (List.replicate (k - 1) 0 ++ [numT t]))) = t0 :: (tl ++ [t])
            · rw [if_pos h3] at e1 hD
              rw [e1, hD]
              exact ⟨by simp, rfl, rfl, fun _ => rfl, fun h => absurd rfl h⟩
            · rw [if_neg h3] at e1 hD
              rw [e1, hD]
              exact ⟨by simp, rfl, rfl, fun h => by simp at h, fun _ => rfl⟩
          · left
            have hn := h.next h1 h2 (by omega)
            have e3 := hn.eq []
            rw [List.append_nil, joinQ_none _ _ hn.pos] at e3
            rw [e3] at e1
            rw [if_neg (by simp)] at e1
            refine ⟨by rw [e1], .inr ⟨t0, tl ++ [t], _, _, rfl, hf, hn, ?_⟩⟩
            rw [hD, List.cons_append]
    · right
      have h1' : okQ t = false := by simpa using h1
      rw [joinQ_bad _ _ h.pos h1'] at e2
      rw [joinG_bad _ _ h.pos hs' (okT_not h1')] at hD
      rw [e2] at e1
      rw [if_neg (by simp)] at e1
      rw [e1, hD]
      exact ⟨by simp, rfl, rfl, fun h => by simp [finG] at h, fun _ => rfl⟩
end
end Go.Proofs.YtddkhkpdbjjboaaGreat

/- seg's token reader: block, its contract. -/
namespace Go.Proofs.YtddkhkpdbjjboaaGreat
open Go.RowKit
set_option linter.unusedVariables false
set_option linter.unusedSimpArgs false
set_option maxRecDepth 100000

section
variable {A : Option Addr} {c G g B : Nat} {bs : List Int} {b1 n1 : Nat} {fw : List (Int × Nat × Nat)} {b2 n2 : Nat} {rw_ : List (Int × Nat × Nat)} {w w' : World} {s : List Bool}
theorem TR.lt (h : TR A c G g bs b1 n1 fw b2 n2 rw_ w s) : g < w.heap.size ∧ b1 < w.heap.size ∧ b2 < w.heap.size := by
  obtain ⟨at_, h1, h2, h3, _⟩ := h
  exact ⟨h1.blk.lt, h2.lt, h3.lt⟩
theorem TR.belowB (h : TR A c G g bs b1 n1 fw b2 n2 rw_ w s) (hb : Below B w w') (hg : g < B ∧ b1 < B ∧ b2 < B) : TR A c G g bs b1 n1 fw b2 n2 rw_ w' s := by
  obtain ⟨at_, h1, h2, h3, h4, h5, h6⟩ := h
  exact ⟨at_, h1.below hb hg.1, h2.below hb hg.2.1, h3.below hb hg.2.2, h4, h5, h6⟩
end
theorem stepS_sym {fw rw_ : List (Int × Nat × Nat)} {first : Bool} {s s2 : List Bool} {t : Int × Int × Int} (h1 : ∀ t ∈ fw, 0 ≤ t.1 ∧ t.1 ≤ 255) (h2 : ∀ t ∈ rw_, 0 ≤ t.1 ∧ t.1 ≤ 255) (h : stepS fw rw_ first s = .inr (t, s2)) : 0 ≤ t.1 ∧ t.1 ≤ 255 := by
  unfold stepS at h
  split at h
  · cases h
  · split at h
    · cases h
    · split at h
      · cases h
      · injection h with h
        injection h with h _
        rw [← h]
        cases first
        · exact nextS_wf h2
        · exact nextS_wf h1
theorem next_split {A : Option Addr} {c G g : Nat} {bs : List Int} {b1 n1 : Nat} {fw : List (Int × Nat × Nat)} {b2 n2 : Nat} {rw_ : List (Int × Nat × Nat)} {w w' : World} {s : List Bool} {first : Bool} {e : Ending}
    (h : NextPost (TR A c G g bs b1 n1 fw b2 n2 rw_) g w (stepS fw rw_ first s) e w') :
    ∃ (er : Int) (t : Int × Int × Int), e = .returned (.tuple #[tokV t, .int .i64 er]) ∧ w.grownBy w' (some g) ∧ ((er ≠ 0 ∧ stepS fw rw_ first s = .inl er) ∨ (er = 0 ∧ ∃ s2, stepS fw rw_ first s = .inr (t, s2) ∧ TR A c G g bs b1 n1 fw b2 n2 rw_ w' s2)) := by
  cases hst : stepS fw rw_ first s with
  | inl er => rw [hst] at h; exact ⟨er, (0, 0, 0), h.1, h.2, .inl ⟨stepS_ne hst, rfl⟩⟩
  | inr q => obtain ⟨t, s2⟩ := q; rw [hst] at h; exact ⟨0, t, h.1, h.2.1, .inr ⟨rfl, s2, rfl, h.2.2⟩⟩
/-- What the loop keeps. -/
structure BI (A : Option Addr) (c G g : Nat) (bs : List Int) (b1 n1 : Nat) (fw : List (Int × Nat × Nat)) (b2 n2 : Nat) (rw_ : List (Int × Nat × Nat)) (before : Int) (D : Int × List Int × List (Int × Int × Int) × Option (List Bool)) (w : World) (T0 : Nat) (toks : List (Int × Int × Int)) (s : List Bool) (er : Int) (t : Int × Int × Int) (v : Value) (wr : World) : Prop where
  inv : SBInv (stepS fw rw_) before D toks s
  own : Owns (T0 + 1) [tokRow v toks] wr
  res : Blk wr w.heap.size zeroB 37
  tok : Blk wr T0 (tokL t) 73
  kept : w.grownBy wr (some g)
  low : w.heap.size < T0
  sm : ∀ x ∈ toks, x.1 ≤ 255
  z : (er ≠ 0 ∧ stepS fw rw_ toks.isEmpty s = .inl er) ∨ (er = 0 ∧ ∃ s2, stepS fw rw_ toks.isEmpty s = .inr (t, s2) ∧ TR A c G g bs b1 n1 fw b2 n2 rw_ wr s2)
/-- The way out. -/
theorem segBlock_out {A : Option Addr} {c G g : Nat} {bs : List Int} {b1 n1 : Nat} {fw : List (Int × Nat × Nat)} {b2 n2 : Nat} {rw_ : List (Int × Nat × Nat)} {w w5 : World} {D : Int × List Int × List (Int × Int × Int) × Option (List Bool)} {os : List Int} {er : Int} {a : Act} (hd : D.1 = er) (ho : outBk D = os) (hl : os.length = 64)
    (h4 : a.tmps.getD 4 undef = .pointer (some ⟨w.heap.size, 0, none⟩)) (h5 : a.tmps.getD 5 undef = .int .i64 er) (hdf : a.defers = [])
    (HB : Blk w5 w.heap.size (ints .i64 os) 37) (hk : w.grownBy w5 (some g)) (hs : ∀ s', D.2.2.2 = some s' → TR A c G g bs b1 n1 fw b2 n2 rw_ w5 s') :
    bodyPost Tryz.prog Tryz.f27 (fun e w' => e = .returned (.tuple #[blkV (outBk D), .int .i64 D.1]) ∧ w.grownBy w' (some g) ∧ ∀ s', D.2.2.2 = some s' → TR A c G g bs b1 n1 fw b2 n2 rw_ w' s') .ret a w5 := by
  rw [hd, ho]
  exact bodyPost_ret (results_row_tmp rfl _ _ w.heap.size 37 (ints .i64 os).toArray (0, 0) _ (.int .i64 er) h4 h5 HB Tryz.underlying37 rfl (by simp only [List.size_toArray]; exact info_blkn (by rw [ints_length, hl]))) hdf ⟨rfl, hk, hs⟩
set_option maxRecDepth 100000 in
set_option maxHeartbeats 8000000 in
theorem segBlock_any (A : Option Addr) (c G g : Nat) (bs : List Int) (b1 n1 : Nat) (fw : List (Int × Nat × Nat)) (b2 n2 : Nat) (rw_ : List (Int × Nat × Nat)) (before : Int) (w : World) (s : List Bool) (h : TR A c G g bs b1 n1 fw b2 n2 rw_ w s) (hby : Bytes bs)
    (hpf1 : PF fw) (hsm1 : ∀ t ∈ fw, 0 ≤ t.1 ∧ t.1 ≤ 255) (hpf2 : PF rw_) (hsm2 : ∀ t ∈ rw_, 0 ≤ t.1 ∧ t.1 ≤ 255) (hb : -2047 ≤ before ∧ before ≤ 2047) :
    Calls Tryz.prog 27 #[.pointer (some ⟨g, 0, none⟩), .int .i64 before] w fun e w' =>
      e = .returned (.tuple #[blkV (outBk (gB (stepS fw rw_) before s)), .int .i64 (gB (stepS fw rw_) before s).1]) ∧ w.grownBy w' (some g) ∧ ∀ s', (gB (stepS fw rw_) before s).2.2.2 = some s' → TR A c G g bs b1 n1 fw b2 n2 rw_ w' s' := by
  obtain ⟨D, hD⟩ : ∃ D, D = gB (stepS fw rw_) before s := ⟨_, rfl⟩
  rw [← hD]
  obtain ⟨hgl, hl1, hl2⟩ := h.lt
  have hb0 := below1 w (.cells zeroB.toArray 37)
  have HB0 := Blk.new w zeroB 37
  have hz0 : (w.alloc (.cells zeroB.toArray 37)).heap.size = w.heap.size + 1 := by simp
  have HF := veil (firstToken_any A c G g bs b1 n1 fw b2 n2 rw_ _ s (h.belowB hb0 ⟨hgl, hl1, hl2⟩) hby hpf1 hsm1)
  have HRt := veil (fun W s' (hr : TR A c G g bs b1 n1 fw b2 n2 rw_ W s') => restToken_any A c G g bs b1 n1 fw b2 n2 rw_ W s' hr hby hpf2 hsm2)
  have HSy := veil (fun first s s2 t => stepS_sym (fw := fw) (rw_ := rw_) (first := first) (s := s) (s2 := s2) (t := t) hsm1 hsm2)
  have hg0 : w.grownBy (w.alloc (.cells zeroB.toArray 37)) (some g) := grown_below (World.grownBy.refl w _) hb0 (Nat.le_refl _)
  have HD := veil hD
  have HBf := veil hb
  have hzl := veil zeroB_length
  have hzone := ints_one (k := .i64) (l := List.replicate 64 0)
  clear h hpf1 hsm1 hpf2 hsm2 hD hb hb0
  go_enter Tryz.func27, Tryz.ntmps27
  go_wp2_with fail
  refine HF.out.mono ?_
  rintro e w2 hN
  obtain ⟨er, t0, p0, p1, p2, he, hg2, ht, hzz⟩ : ∃ (er : Int) (t0 : Int × Int × Int) (p0 p1 p2 : Int), e = .returned (.tuple #[tokV (p0, p1, p2), .int .i64 er]) ∧ (w.alloc (.cells zeroB.toArray 37)).grownBy w2 (some g) ∧ t0 = (p0, p1, p2) ∧ ((er ≠ 0 ∧ stepS fw rw_ true s = .inl er) ∨ (er = 0 ∧ ∃ s2, stepS fw rw_ true s = .inr (t0, s2) ∧ TR A c G g bs b1 n1 fw b2 n2 rw_ w2 s2)) := by
    cases hst : stepS fw rw_ true s with
    | inl er => rw [hst] at hN; exact ⟨er, (0, 0, 0), 0, 0, 0, hN.1, hN.2, rfl, .inl ⟨stepS_ne hst, rfl⟩⟩
    | inr q => obtain ⟨t, s2⟩ := q; rw [hst] at hN; exact ⟨0, t, t.1, t.2.1, t.2.2, hN.1, hN.2.1, rfl, .inr ⟨rfl, s2, rfl, hN.2.2⟩⟩
  subst he
  have hB2 := HB0.kept hg2 (by simp; omega)
  have hg3 := hg0.trans hg2
  have hz2 := hg2.size
  rw [hz0] at hz2
  have hb3 := below1 w2 (.cells (tokL t0).toArray 73)
  have HI0 : Hid (BI A c G g bs b1 n1 fw b2 n2 rw_ before D w w2.heap.size [] s er t0 (.slice none 0 0) (w2.alloc (.cells (tokL t0).toArray 73))) :=
    ⟨.inl ⟨rfl, HD.out⟩, (Owns.nil (by simp)).fresh _ _, hB2.below hb3 (by omega), Blk.new w2 (tokL t0) 73, grown_below hg3 hb3 (by omega), by omega, by simp, by
      rcases hzz with h | ⟨h, s2, h1, h2⟩
      · exact .inl h
      · exact .inr ⟨h, s2, h1, h2.belowB hb3 (by omega)⟩⟩
  subst ht
  obtain ⟨T0, hT0⟩ : ∃ T0, T0 = w2.heap.size := ⟨_, rfl⟩
  rw [← hT0] at HI0
  have HT0 := veil hT0
  have hone0 := tokL_one (0, 0, 0)
  have hone := tokL_one (p0, p1, p2)
  clear hzz hN HB0 hg0 hg2 hB2 hg3 hb3 HF HD hT0
  unfold tokV
  go_upto_region 2 with (first
    | (refine wpList_store_new w2 rfl 73 (.tmp 6) (.tmp 15) rfl (tokL (0, 0, 0)).toArray (tokL (p0, p1, p2)) rfl rfl info_tok3 rfl hone ?_)
    | fail)
  rw [← HT0.out]
  go_wp2_with fail
  go_loopg [7, 8, 9, 10, 11] 65 (fun gk v7 v8 v9 v10 v11 wr => ∃ (toks : List (Int × Int × Int)) (s1 : List Bool) (er : Int) (t : Int × Int × Int), gk = 65 - toks.length ∧ v7 = .int .i64 er ∧ Hid (BI A c G g bs b1 n1 fw b2 n2 rw_ before D w T0 toks s1 er t v8 wr))
  case atStart => exact ⟨[], s, er, (p0, p1, p2), rfl, rfl, HI0⟩
  case round =>
    clear HI0 hone
    obtain ⟨toks, s1, er, ⟨q0, q1, q2⟩, rfl, rfl, HI⟩ := hrel
    have hfew := HI.out.inv.few
    have hTz := HI.out.tok.lt
    have hlow := HI.out.low
    by_cases he : er = 0
    · subst he
      obtain ⟨s2, hst, hTR⟩ : ∃ s2, stepS fw rw_ toks.isEmpty s1 = .inr ((q0, q1, q2), s2) ∧ TR A c G g bs b1 n1 fw b2 n2 rw_ wr s2 := by
        rcases HI.out.z with ⟨h, _⟩ | ⟨_, h⟩
        · exact absurd rfl h
        · exact h
      have hsy := HSy.out _ _ _ _ hst
      have HGo := veil (HI.out.inv.go hst hsy.2 HBf.out)
      have c0 := HI.out.tok.cell (i := 0) (v := .int .i64 q0) rfl
      have c1 := HI.out.tok.cell (i := 1) (v := .int .i64 q1) rfl
      have c2 := HI.out.tok.cell (i := 2) (v := .int .i64 q2) rfl
      have HO := HI.out.own
      have HRes := veil HI.out.res
      have HTok := veil HI.out.tok
      have HKept := veil HI.out.kept
      have HTR := veil hTR
      have Hfew : Hid (toks.length + 1 ≤ 1099511627776) := by show _ ≤ _; omega
      obtain ⟨L, hL⟩ : ∃ L, L = toks ++ [(q0, q1, q2)] := ⟨_, rfl⟩
      have hsmL : ∀ x ∈ L, x.1 ≤ 255 := by
        intro x hx
        rw [hL] at hx
        rcases List.mem_append.1 hx with hx | hx
        · exact HI.out.sm x hx
        · rw [List.mem_singleton.1 hx]; exact hsy.2
      have HsmL := veil hsmL
      have hLl : L.length = toks.length + 1 := by rw [hL]; simp
      have HLl := veil hLl
      rw [← hL] at HGo
      have HL := veil hL
      clear hst hsy hTR HI hsmL hLl hL
      go_upto_region 5 with (first
        | (refine wpList_ownK wr rfl (.tmp 19) (.tmp 21) rfl (T0 + 1) u8 toks [] rfl HO q0 q1 q2 rfl Hfew.out ?_; intro v' w3 HO3 hb3 hs3)
        | fail)
      rw [← HL.out] at HO3
      obtain ⟨A5, c5, rfl, hs5, hc5, hm5⟩ := tok_form HO3
      have HB := veil (block_any before A5 c5 w3.heap.size L w3 hs5 (Nat.le_refl _) hc5 hm5 (fun x hx => by have := HsmL.out x hx; omega))
      have hRes3 := HRes.out.below hb3 (by omega)
      have hTok3 := HTok.out.below hb3 (by omega)
      have hK3 := grown_below HKept.out hb3 (by omega)
      have hTR3 := HTR.out.belowB hb3 (by omega)
      clear c0 c1 c2 hs5 HRes HTok HKept HTR HO hb3
      go_wp2_with fail
      refine HB.out.mono ?_
      rintro e w4 ⟨rfl, hb4⟩
      have hz4 := hb4.size
      have hO4 := HO3.below hb4
      have hRes4 := hRes3.below hb4 (by omega)
      have hTok4 := hTok3.below hb4 (by omega)
      have hK4 := grown_below hK3 hb4 (by have := hK3.size; omega)
      have hTR4 := hTR3.belowB hb4 (by omega)
      obtain ⟨os, hos⟩ : ∃ os, os = oP before L := ⟨_, rfl⟩
      obtain ⟨E, hE⟩ : ∃ E, E = (decP before L).1 := ⟨_, rfl⟩
      have hosl : os.length = 64 := by rw [hos]; exact oP_length _ _
      rw [← hos, ← hE]
      have Hosl : Hid ((ints .i64 os).length = 64) := by show _ = _; rw [ints_length, hosl]
      have hone := ints_one (k := .i64) (l := os)
      have hr5 := range_new w4 (ints .i64 os) 37
      have hb5 := below1 w4 (.cells (ints .i64 os).toArray 37)
      have hz5 : (w4.alloc (.cells (ints .i64 os).toArray 37)).heap.size = w4.heap.size + 1 := by simp
      have hO5 := hO4.alloc (.cells (ints .i64 os).toArray 37)
      have hRes5 := hRes4.below hb5 (by omega)
      have hTok5 := hTok4.below hb5 (by omega)
      have hK5 := grown_below hK4 hb5 (by have := hK4.size; omega)
      have hTR5 := hTR4.belowB hb5 (by omega)
      have Hos := veil hos
      have HE := veil hE
      obtain ⟨ys, hys⟩ : ∃ ys, ys = ints .i64 os := ⟨_, rfl⟩
      have Hys := veil hys
      unfold blkV
      rw [← hys] at hr5 Hosl hone hb5 hz5 hO5 hRes5 hTok5 hK5 hTR5 ⊢
      have HO5 := veil hO5; have HRes5 := veil hRes5; have HTok5 := veil hTok5; have HK5 := veil hK5; have HTR5 := veil hTR5; have Hr5 := veil hr5
      have hsz5 := hK5.size
      clear HO3 hb4 hO4 hRes3 hRes4 hTok3 hTok4 hK3 hK4 hTR3 hTR4 hos hE HB hys hb5 hO5 hRes5 hTok5 hK5 hTR5 hr5
      go_upto_region 6 with (first
        | (refine wpList_store_new w4 rfl 37 (.tmp 9) (.tmp 27) rfl zeroB.toArray ys rfl rfl (info_blkn Hosl.out) (by rw [Hosl.out]; rfl) hone ?_)
        | fail)
      by_cases hE3 : E = 3
      · subst hE3
        have hS := HGo.out
        rw [← HE.out] at hS
        obtain ⟨_, hinv⟩ := hS.resolve_right (fun h => h.1 rfl)
        have HInv := veil hinv
        have HRt2 := veil (HRt.out _ _ HTR5.out)
        clear hS hinv HGo
        go_wp2_with fail
        refine HRt2.out.mono ?_
        rintro e w6 hN
        obtain ⟨er, t, he, hg6, hz6⟩ := next_split hN
        subst he
        obtain ⟨r0, r1, r2⟩ := t
        have hRes6 := HRes5.out.kept hg6 (by simp; omega)
        have hTok6 := HTok5.out.kept hg6 (by simp; omega)
        have hK6 := HK5.out.trans hg6
        have hO6 := HO5.out.kept hg6 (by omega)
        have hone6 := tokL_one (r0, r1, r2)
        have Hz6 := veil hz6
        have hsz6 := hg6.size
        clear hN hg6 hz6
        unfold tokV
        go_wp2_with (first
          | (refine wpList_store_blk w6 rfl 73 (.tmp 6) (.tmp 37) rfl T0 (tokL (q0, q1, q2)) (tokL (r0, r1, r2)) 73 hTok6 rfl rfl info_tok3 rfl hone6 ?_; intro w7 HB7 hg7)
          | fail)
        have hl1' := HTR5.out.lt
        go_roundg (65 - L.length)
        case rel =>
          refine ⟨L, s2, er, (r0, r1, r2), rfl, rfl, veil ⟨by rw [HL.out]; rw [HL.out] at HInv; exact HInv.out, hO6.kept hg7 (by omega), hRes6.kept hg7 (by simp; omega), HB7, grown_grown hK6 hg7 (by omega), hlow, HsmL.out, ?_⟩⟩
          have hne : L.isEmpty = false := by rw [HL.out]; cases toks <;> rfl
          rw [hne]
          rcases Hz6.out with h | ⟨h, s3, h1, h2⟩
          · exact .inl h
          · exact .inr ⟨h, s3, h1, h2.kept hg7 (by omega) (by omega) (by omega)⟩
        case measure => have := HLl.out; omega
      · have hEb : (E != 3) = true := by simpa using hE3
        have hS := HGo.out
        rw [← HE.out] at hS
        obtain ⟨_, h1, h2, h3, h4⟩ := hS.resolve_left (fun h => hE3 h.1)
        have HF1 := veil h1; have HF2 := veil h2; have HF3 := veil h3; have HF4 := veil h4
        have HE3 := veil hE3
        clear hS h1 h2 h3 h4 HGo hE3
        go_wp2_with (first
          | (refine wpList_load_mid rfl 37 (.tmp 9) rfl w4.heap.size 0 rfl ys _ Hr5.out Tryz.underlying37 rfl (info_blkn Hosl.out) ?_)
          | (refine wpList_store_blk (w4.alloc (.cells ys.toArray 37)) rfl 37 (.tmp 4) (.tmp 32) rfl w.heap.size zeroB ys 37 HRes5.out rfl rfl (info_blkn Hosl.out) (by rw [Hosl.out]; rfl) hone ?_; intro w7 HB7 hg7)
          | fail)
        refine segBlock_out (er := E) (os := os) HF1.out ?_ hosl rfl rfl rfl (by rw [← Hys.out]; exact HB7) (grown_grown HK5.out hg7 (Nat.le_refl _)) ?_
        · unfold outBk
          rw [Hos.out]
          unfold oP
          rw [← HE.out, HF1.out, HF2.out]
        · intro s' hs'
          by_cases h0 : D.1 = 0
          · have := HF3.out h0
            rw [this] at hs'
            injection hs' with hs'
            subst hs'
            exact HTR5.out.kept hg7 hgl (by omega) (by omega)
          · have := HF4.out h0
            rw [this] at hs'
            cases hs'
    · have hst : stepS fw rw_ toks.isEmpty s1 = .inl er := by
        rcases HI.out.z with ⟨_, h⟩ | ⟨h, _⟩
        · exact h
        · exact absurd h he
      have HDe := veil (HI.out.inv.err hst he)
      have hRes := HI.out.res
      have hK := HI.out.kept
      have HEn := veil he
      have hbe : (er == 0) = false := by simpa using he
      clear hst he
      go_wp2_with (first
        | (refine wpList_store_blk wr rfl 37 (.tmp 4) (.tmp 39) rfl w.heap.size zeroB zeroB 37 hRes rfl rfl (info_blkn hzl.out) rfl hzone ?_; intro w7 HB7 hg7)
        | fail)
      refine segBlock_out (er := er) (os := zero64) (by rw [HDe.out]) (by rw [HDe.out]; exact if_neg HEn.out) zero64_length rfl rfl rfl HB7 (grown_grown hK hg7 (Nat.le_refl _)) ?_
      intro s' hs'
      rw [HDe.out] at hs'
      cases hs'
end Go.Proofs.YtddkhkpdbjjboaaGreat

/- seg's bit reader: onlyFillLeft, its contract. -/
namespace Go.Proofs.YtddkhkpdbjjboaaGreat
open Go.RowKit
set_option linter.unusedVariables false
set_option linter.unusedSimpArgs false
set_option maxRecDepth 100000

theorem all_id {s : List Bool} : s.all id = true ↔ s = List.replicate s.length true := by
  rw [List.all_eq_true, List.eq_replicate_iff]
  exact ⟨fun h => ⟨rfl, h⟩, fun h => h.2⟩
theorem fillB_val {s : List Bool} {d : Nat} (hl : s.length = d) (hd : d < 8) : fillB s = decide ((valB s : Int) = ((2 ^ d - 1 : Nat) : Int)) := by
  unfold fillB
  rw [decide_eq_true (by omega), Bool.true_and, Bool.eq_iff_iff, all_id, decide_eq_true_iff, hl]
  have hp := Nat.two_pow_pos d
  constructor
  · intro h
    have := valB_bitsN d (2 ^ d - 1) (by omega)
    rw [bitsN_ones, ← h] at this
    rw [this]
  · intro h
    have h2 : valB s = 2 ^ d - 1 := by omega
    have := bitsN_valB s
    rw [h2, hl, bitsN_ones] at this
    exact this.symm
theorem fillB_long {s : List Bool} (hl : 8 ≤ s.length) : fillB s = false := by
  unfold fillB; rw [decide_eq_false (by omega)]; rfl
set_option maxRecDepth 100000 in
set_option maxHeartbeats 4000000 in
theorem onlyFill_any (A : Option Addr) (c G g : Nat) (bs : List Int) (m1 m2 : Value) (at_ : Nat) (w : World) (h : Rd A c G g bs m1 m2 at_ w) (hby : Bytes bs) :
    Calls Tryz.prog 28 #[.pointer (some ⟨g, 0, none⟩)] w fun e w' => e = .returned (.bool (fillB ((unpack bs).drop at_))) ∧ w.grownBy w' (some g) := by
  obtain ⟨F, hF⟩ : ∃ F, F = fillB ((unpack bs).drop at_) := ⟨_, rfl⟩
  rw [← hF]
  have HF := veil hF
  have hgl := h.blk.lt
  have hle := h.le
  have hfew := h.few
  have hlen : ((unpack bs).drop at_).length = 8 * bs.length - at_ := by rw [List.length_drop, unpack_length]
  have c0 := h.blk.cell (i := 0) (v := .slice A bs.length c) rfl
  have c1 := h.blk.cell (i := 1) (v := .int .i64 (at_ : Int)) rfl
  obtain ⟨d, hd⟩ : ∃ d : Nat, 8 * bs.length = at_ + d := ⟨8 * bs.length - at_, by omega⟩
  have HT := veil (fun W (hr : Rd A c G g bs m1 m2 at_ W) (hd : d ≤ 24) => take_any A c G g bs m1 m2 at_ d W hr hd hby)
  have hsub : IntKind.i64.wrap (IntKind.i64.wrap (8 * (bs.length : Int)) - (at_ : Int)) = (d : Int) := by
    have e : IntKind.i64.wrap (8 * (bs.length : Int)) = 8 * (bs.length : Int) := by rw [IntKind.wrap_i64]; omega
    rw [e, IntKind.wrap_i64]; omega
  have hsub2 : IntKind.i64.wrap (8 * (bs.length : Int) - (at_ : Int)) = (d : Int) := by rw [IntKind.wrap_i64]; omega
  have HR := veil h
  have Hd := veil hd
  have Hlen := veil hlen
  clear h hF hlen
  go_enter Tryz.func28, Tryz.ntmps28
  go_wp2_with fail
  go_quiet (fail)
  by_cases hd8 : d < 8
  · have hd8z : ¬ (8 : Int) ≤ (d : Int) := by omega
    have HTd := veil (HT.out (w.drewN nq) (HR.out.below ((Below.refl w.heap.size w).drewN nq) hgl) (by omega))
    have hg0 : w.grownBy (w.drewN nq) (some g) := grown_below (World.grownBy.refl w _) ((Below.refl w.heap.size w).drewN nq) (Nat.le_refl _)
    go_wp2_with fail
    refine HTd.out.mono ?_
    rintro e w2 ⟨hok, _⟩
    obtain ⟨rfl, hR2, hg2⟩ := hok (by omega)
    have HG := veil (hg0.trans hg2)
    have hld : ((unpack bs).drop at_).length = d := by rw [Hlen.out]; omega
    rw [List.take_of_length_le (by omega)]
    have hFX := fillB_val hld hd8
    obtain ⟨X, hX⟩ : ∃ X : Nat, X = valB ((unpack bs).drop at_) := ⟨_, rfl⟩
    rw [← hX] at hFX ⊢
    rw [← HF.out] at hFX
    have HFX := veil hFX
    have hX8 : X < 256 := by
      have := valB_lt ((unpack bs).drop at_)
      rw [hld, ← hX] at this
      have : 2 ^ d ≤ 2 ^ 8 := Nat.pow_le_pow_right (by omega) (by omega)
      omega
    clear hok hR2 hg2 hg0 HTd HT hFX hX hld hsub hsub2 hle hd8z c0 c1
    obtain rfl | rfl | rfl | rfl | rfl | rfl | rfl | rfl : d = 0 ∨ d = 1 ∨ d = 2 ∨ d = 3 ∨ d = 4 ∨ d = 5 ∨ d = 6 ∨ d = 7 := by omega
    · obtain ⟨b, hb⟩ : ∃ b : Bool, b = decide ((X : Int) = ((2 ^ 0 - 1 : Nat) : Int)) := ⟨_, rfl⟩
      have hbv : ((X : Int) == 0) = b := by rw [hb]; rfl
      rw [← hb] at HFX
      clear hb
      go_wp2_with fail
      all_goals (go_ret; exact ⟨by first | (rw [HFX.out]; done) | (rw [HFX.out]; rfl) | (rw [HFX.out]; simp_all), HG.out⟩)
    · obtain ⟨b, hb⟩ : ∃ b : Bool, b = decide ((X : Int) = ((2 ^ 1 - 1 : Nat) : Int)) := ⟨_, rfl⟩
      have hbv : ((X : Int) == 1) = b := by rw [hb]; rfl
      rw [← hb] at HFX
      clear hb
      go_wp2_with fail
      all_goals (go_ret; exact ⟨by first | (rw [HFX.out]; done) | (rw [HFX.out]; rfl) | (rw [HFX.out]; simp_all), HG.out⟩)
    · obtain ⟨b, hb⟩ : ∃ b : Bool, b = decide ((X : Int) = ((2 ^ 2 - 1 : Nat) : Int)) := ⟨_, rfl⟩
      have hbv : ((X : Int) == 3) = b := by rw [hb]; rfl
      rw [← hb] at HFX
      clear hb
      go_wp2_with fail
      all_goals (go_ret; exact ⟨by first | (rw [HFX.out]; done) | (rw [HFX.out]; rfl) | (rw [HFX.out]; simp_all), HG.out⟩)
    · obtain ⟨b, hb⟩ : ∃ b : Bool, b = decide ((X : Int) = ((2 ^ 3 - 1 : Nat) : Int)) := ⟨_, rfl⟩
      have hbv : ((X : Int) == 7) = b := by rw [hb]; rfl
      rw [← hb] at HFX
      clear hb
      go_wp2_with fail
      all_goals (go_ret; exact ⟨by first | (rw [HFX.out]; done) | (rw [HFX.out]; rfl) | (rw [HFX.out]; simp_all), HG.out⟩)
    · obtain ⟨b, hb⟩ : ∃ b : Bool, b = decide ((X : Int) = ((2 ^ 4 - 1 : Nat) : Int)) := ⟨_, rfl⟩
      have hbv : ((X : Int) == 15) = b := by rw [hb]; rfl
      rw [← hb] at HFX
      clear hb
      go_wp2_with fail
      all_goals (go_ret; exact ⟨by first | (rw [HFX.out]; done) | (rw [HFX.out]; rfl) | (rw [HFX.out]; simp_all), HG.out⟩)
    · obtain ⟨b, hb⟩ : ∃ b : Bool, b = decide ((X : Int) = ((2 ^ 5 - 1 : Nat) : Int)) := ⟨_, rfl⟩
      have hbv : ((X : Int) == 31) = b := by rw [hb]; rfl
      rw [← hb] at HFX
      clear hb
      go_wp2_with fail
      all_goals (go_ret; exact ⟨by first | (rw [HFX.out]; done) | (rw [HFX.out]; rfl) | (rw [HFX.out]; simp_all), HG.out⟩)
    · obtain ⟨b, hb⟩ : ∃ b : Bool, b = decide ((X : Int) = ((2 ^ 6 - 1 : Nat) : Int)) := ⟨_, rfl⟩
      have hbv : ((X : Int) == 63) = b := by rw [hb]; rfl
      rw [← hb] at HFX
      clear hb
      go_wp2_with fail
      all_goals (go_ret; exact ⟨by first | (rw [HFX.out]; done) | (rw [HFX.out]; rfl) | (rw [HFX.out]; simp_all), HG.out⟩)
    · obtain ⟨b, hb⟩ : ∃ b : Bool, b = decide ((X : Int) = ((2 ^ 7 - 1 : Nat) : Int)) := ⟨_, rfl⟩
      have hbv : ((X : Int) == 127) = b := by rw [hb]; rfl
      rw [← hb] at HFX
      clear hb
      go_wp2_with fail
      all_goals (go_ret; exact ⟨by first | (rw [HFX.out]; done) | (rw [HFX.out]; rfl) | (rw [HFX.out]; simp_all), HG.out⟩)
  · have hd8z : (8 : Int) ≤ (d : Int) := by omega
    have hFf : F = false := by rw [HF.out]; exact fillB_long (by rw [Hlen.out]; omega)
    subst hFf
    have HG : Hid (w.grownBy (w.drewN nq) (some g)) := grown_below (World.grownBy.refl w _) ((Below.refl w.heap.size w).drewN nq) (Nat.le_refl _)
    go_wp2_with fail
    go_ret
    exact ⟨rfl, HG.out⟩
end Go.Proofs.YtddkhkpdbjjboaaGreat

/- Blocks in a row: made, built, appended. -/
namespace Go.Proofs.YtddkhkpdbjjboaaGreat
open Go.RowKit
set_option linter.unusedVariables false
set_option linter.unusedSimpArgs false
set_option maxRecDepth 100000

theorem info_blk3 : (Tryz.prog.info? 37).map (fun i => (i.zero, i.size, i.bytes)) = some (some (.agg zeroB.toArray), 64, 512) := by kernel_rfl
theorem elem_blk : ElemOf Tryz.prog 29 37 64 512 := .mk' (z := .agg zeroB.toArray) Tryz.underlying29 (by kernel_rfl) rfl (by omega)
theorem run_make_blocks (n : Nat) (h : n ≤ 1000000) (u : World) : ∃ cur, (Instr.makeSlice 29 (.int .i64 0) (.int .i64 (n : Int))).run Tryz.prog u =
    .ok (.slice (some ⟨u.heap.size, 0, none⟩) 0 n) (u.alloc (.cells cur 37)) ∧ cur.size = n * 64 := by
  obtain ⟨i0, hi, hz0, hz1, hz2⟩ := info_parts info_blk3
  have h := run_make (P := Tryz.prog) u 29 37 i0 (.agg zeroB.toArray) Tryz.underlying29 hi hz0 .i64 .i64 0 n (by omega) (by omega) (by rw [hz2]; omega) (by omega)
  exact ⟨_, h, by simp [madeCells, hz1, Value.cells]⟩
abbrev blkRow (v : Value) (L : List (List Int)) : Row := ⟨37, 64, v, L.length, rowsC L⟩
theorem rowsC_append (a b : List (List Int)) : rowsC (a ++ b) = rowsC a ++ rowsC b := by simp [rowsC]
theorem rowsC_one (r : List Int) : rowsC [r] = ints .i64 r := by simp [rowsC]
theorem blkRow_append (v : Value) (l m : List (List Int)) : (⟨37, 64, v, l.length + m.length, rowsC l ++ rowsC m⟩ : Row) = blkRow v (l ++ m) := by simp [blkRow, rowsC_append]
/-- In a walk: append of one block just laid onto the first of the rows. -/
theorem wpList_ownB {ops : Array Oper} {rest : List Oper} {o : Oper} {a : Act} {Q : Exit → Act → World → Prop} (w0 : World) (hgd : Region.wanted o (yielded ops a.tmps) = true) (s x : Operand)
    (ho : o.op = .call { callee := .builtin .append, args := #[s, x], argTypes := #[29, 29] })
    (B : Nat) (v : Value) (l : List (List Int)) (rs : List Row) (hs : a.eval s = v) (HO : Owns B (blkRow v l :: rs) w0) (r : List Int) (ys : List Value) (hys : ys = ints .i64 r) (hr : r.length = 64) (hx : a.eval x = .slice (some ⟨w0.heap.size, 0, none⟩) 1 1)
    (h63 : l.length + 1 ≤ 1000000)
    (h : ∀ v' w', Owns B (blkRow v' (l ++ [r]) :: rs) w' → (w0.alloc (.cells ys.toArray 37)).grownBy w' v.ownBlock → Below B w0 w' → w0.heap.size < w'.heap.size → wpList Tryz.prog ops Q rest (a.put o.dst v') w') : wpList Tryz.prog ops Q (o :: rest) a (w0.alloc (.cells ys.toArray 37)) := by
  subst hys
  have e := rowsC_one r
  refine wpList_step fun K hK => ?_
  rw [if_pos hgd]
  refine wp_ownV _ s x _ ho B 37 64 512 elem_blk v l.length (rowsC l) rs hs (HO.alloc _) (w0.heap.size + 1) _ 1 1 (rowsC [r]) hx (by rw [e]; exact Seen.new w0 (ints .i64 r) _ _ (Nat.lt_succ_self _)) (by rw [e, ints_length, hr]) (by rw [e]; exact ints_one) (by unfold maxLen; omega) (by omega) ?_
  intro v' w' h2 hg h3
  have := h3.size
  refine hK _ _ (h v' w' ?_ hg (((Below.refl _ _).alloc HO.base _).trans h3) (by simp at this; omega))
  rw [← blkRow_append]
  exact h2
theorem fill_blk (ys : List Value) (hl : ys.length = 64) (base : Array Value) (hb : base.size = 64) : Instr.fill (fun i => some (i * 64, 64)) base [(0, .agg ys.toArray)] = some ys.toArray := by
  obtain ⟨r, h1, h2, h3⟩ := Great.fill_dense (s := 64) (by omega) [.agg ys.toArray] 0 base (by intro v hv; rw [List.mem_singleton.1 hv]; simpa [Value.cells] using hl) (by rw [hb]; simp)
  have e : (([Value.agg ys.toArray].zipIdx 0).map fun x => (x.2, x.1)) = [(0, .agg ys.toArray)] := rfl
  rw [e] at h1
  rw [h1]
  congr 1
  apply Array.ext_getElem?
  intro k
  rw [h3 k]
  by_cases hk : k < 64
  · rw [if_pos (by simp; omega)]
    simp [Nat.div_eq_of_lt hk, Nat.mod_eq_of_lt hk, Value.cells]
  · rw [if_neg (by simp; omega), Array.getElem?_eq_none (by omega), Array.getElem?_eq_none (by simp; omega)]
/-- In a walk: a slice of one block. -/
theorem wpList_buildBlk {ops : Array Oper} {rest : List Oper} {o : Oper} {a : Act} {w : World} {Q : Exit → Act → World → Prop} (hg : o.guard = none) (x : Operand) (ho : o.op = .buildSlice 29 1 #[(0, x)]) (ys : List Value) (hx : a.eval x = .agg ys.toArray) (hl : ys.length = 64)
    (h : wpList Tryz.prog ops Q rest (a.put o.dst (.slice (some ⟨w.heap.size, 0, none⟩) 1 1)) (w.alloc (.cells ys.toArray 37))) : wpList Tryz.prog ops Q (o :: rest) a w := by
  obtain ⟨i0, hi, hz0, hz1, hz2⟩ := info_parts info_blk3
  refine wpList_buildSlice hg 29 37 1 #[(0, x)] ho ys.toArray i0 (.agg zeroB.toArray) Tryz.underlying29 hi hz0 (by rw [hz1]; omega) (by rw [hz1]; omega) ?_ h
  have e : (#[(0, x)].map fun (i, x) => (i, a.eval x)).toList = [(0, .agg ys.toArray)] := by simp [hx]
  rw [e, hz1]
  exact fill_blk ys hl _ (by simp)
end Go.Proofs.YtddkhkpdbjjboaaGreat

/- table.Symbols: its contract. -/
namespace Go.Proofs.YtddkhkpdbjjboaaGreat
open Go.RowKit
set_option linter.unusedVariables false
set_option linter.unusedSimpArgs false
set_option maxRecDepth 100000

theorem make_mapC (n : Nat) (w : World) : (Instr.makeMap 56 (some (.int .i64 (n : Int)))).run Tryz.prog w = .ok (.map (some w.heap.size)) (w.alloc (.map #[] 0)) := by
  simp [Instr.makeMap, run_underlying Tryz.underlying56, asInt, newObj]
  rfl
set_option maxRecDepth 100000 in
set_option maxHeartbeats 4000000 in
theorem symbols_any (cs syms : List Int) (A : Option Addr) (c G : Nat) (w : World) (hcs : cs.length = 16) (hn : syms.length ≤ maxLen) (hb : ∀ x ∈ cs, -9223372036854775808 ≤ x ∧ x ≤ 9223372036854775807) (hs : Seen w G A (ints .i64 syms)) (hG : G ≤ w.heap.size) :
    Calls Tryz.prog 25 #[tabV cs A syms.length c] w fun e w' => ∃ v, e = .returned (.tuple #[v, .int .i64 (checkErr cs syms)]) ∧ (checkErr cs syms = 0 → ∃ b, v = .map (some b) ∧ w.heap.size ≤ b ∧ MapC w' b syms.length (codeF (outWords cs syms))) ∧ (checkErr cs syms ≠ 0 → v = .map none) ∧ Below w.heap.size w w' := by
  have hlen17 : (tabCells cs A syms.length c).length = 17 := tabCells_length hcs
  have hck := fun w1 h1 hG1 => words_any cs syms A c G w1 hcs hn hb h1 hG1
  have Hcs := veil hcs
  clear hcs hb
  obtain ⟨ys, hys⟩ : ∃ ys, ys = tabCells cs A syms.length c := ⟨_, rfl⟩
  have Hr := veil (range_new w ys 25)
  unfold tabV at hck ⊢
  rw [← hys] at hlen17 hck ⊢
  clear hys
  have Hck := veil hck; clear hck
  have H17 := veil hlen17; clear hlen17
  go_enter Tryz.func25, Tryz.ntmps25
  go_wp2_with (first
    | (refine wpList_load_mid rfl 25 (.tmp 1) rfl w.heap.size 0 rfl ys _ Hr.out Tryz.underlying25 rfl (by rw [H17.out]; exact info_tab) ?_)
    | fail)
  refine (Hck.out _ (hs.alloc hG _) (by simp; omega)).mono ?_
  rintro e w1 ⟨v, rfl, HO, hb1⟩
  have hbel1 : Below w.heap.size w w1 := (below1 _ _).trans (hb1.mono (by simp))
  have hz1 := hb1.size
  simp at hz1
  clear Hr hb1
  by_cases h0 : checkErr cs syms = 0
  · rw [h0]
    have H0 := veil h0
    obtain ⟨l, hf, how, hll⟩ := fine_of h0
    have h256 := hf.good.le
    rw [how] at HO
    have hwl : (mkWords syms l).length = syms.length := by rw [mkWords_length _ _ (by omega), hll]
    have hwf : ∀ t ∈ mkWords syms l, WF t.1 ∧ WF (t.2.1 : Int) ∧ WF (t.2.2 : Int) := fun t ht => fi_small hf Hcs.out ht
    obtain ⟨A5, c5, e5, hs5, _, _⟩ := HO.seen (List.mem_cons_self ..)
    simp only [wordRow] at e5 hs5
    obtain ⟨ws, hws⟩ : ∃ ws, ws = mkWords syms l := ⟨_, rfl⟩
    rw [← hws] at e5 hs5 hwl hwf how
    subst e5
    have How := veil how
    have Hwf := veil hwf
    have Hwl := veil hwl
    have hl256 : ws.length ≤ 256 := by omega
    have hmm := make_mapC ws.length w1
    clear hwf hll hf how HO h0 hwl hws
    go_wp2_with fail
    clear hmm
    go_loopg [8, 22] ws.length (fun gk p i wr => ∃ k : Nat, gk = ws.length - k ∧ k ≤ ws.length ∧ i = .int .i64 k ∧ MapC wr w1.heap.size k (codeF (ws.take k)) ∧ Below w1.heap.size w1 wr)
    case atStart => exact ⟨0, rfl, Nat.zero_le _, rfl, MapC.made w1, below1 _ _⟩
    case round =>
      obtain ⟨k, rfl, hk, rfl, HM, hbel⟩ := hrel
      by_cases hlt : k < ws.length
      · obtain ⟨g, o, s, n, cd, rfl, hg, hx, h1, h2, h3⟩ := hs5.triple hlt
        have hz := hbel.size
        rw [← hbel.cell (by simp; omega)] at h1 h2 h3
        have Hx := veil hx; clear hx
        go_wp2_with fail
        have hlen : k < maxLen := by unfold maxLen; omega
        have hwx : WF s ∧ WF (n : Int) ∧ WF (cd : Int) := Hwf.out _ (List.mem_of_getElem? Hx.out)
        have Hwx := veil hwx; clear hwx
        have hne : wr.heap.size ≠ w1.heap.size := by have := HM.lt; omega
        have HM2 := HM.below (below1 wr (Obj.cells #[Value.int IntKind.i64 s, Value.int IntKind.i64 (n : Int), Value.int IntKind.i64 (cd : Int)] 98)) HM.lt
        have hbel2 := hbel.trans ((below1 wr (Obj.cells #[Value.int IntKind.i64 s, Value.int IntKind.i64 (n : Int), Value.int IntKind.i64 (cd : Int)] 98)).mono hz)
        have c0 : (wr.alloc (Obj.cells #[Value.int IntKind.i64 s, Value.int IntKind.i64 (n : Int), Value.int IntKind.i64 (cd : Int)] 98)).cell? ⟨wr.heap.size, 0, none⟩ = some (.int .i64 s) := by simp
        have c1 : (wr.alloc (Obj.cells #[Value.int IntKind.i64 s, Value.int IntKind.i64 (n : Int), Value.int IntKind.i64 (cd : Int)] 98)).cell? ⟨wr.heap.size, 1, none⟩ = some (.int .i64 (n : Int)) := by simp
        have c2 : (wr.alloc (Obj.cells #[Value.int IntKind.i64 s, Value.int IntKind.i64 (n : Int), Value.int IntKind.i64 (cd : Int)] 98)).cell? ⟨wr.heap.size, 2, none⟩ = some (.int .i64 (cd : Int)) := by simp
        have hsz : wr.heap.size < (wr.alloc (Obj.cells #[Value.int IntKind.i64 s, Value.int IntKind.i64 (n : Int), Value.int IntKind.i64 (cd : Int)] 98)).heap.size := by simp
        generalize wr.alloc (Obj.cells #[Value.int IntKind.i64 s, Value.int IntKind.i64 (n : Int), Value.int IntKind.i64 (cd : Int)] 98) = W at *
        clear h1 h2 h3 HM hbel hs5
        generalize wr.heap.size = B at *
        go_region_held3 (fun w' => w'.cell? ⟨B, 0, none⟩ = some (.int .i64 s) ∧ w'.cell? ⟨B, 1, none⟩ = some (.int .i64 (n : Int)) ∧ w'.cell? ⟨B, 2, none⟩ = some (.int .i64 (cd : Int)))
          (first
            | go_keep
            | (go_split_ands
               refine ⟨?_, ?_, ?_⟩
               · (first | (refine (hb1.cell hsz).trans ?_; assumption) | (refine cell_far hgr2 hne ?_; assumption))
               · (first | (refine (hb1.cell hsz).trans ?_; assumption) | (refine cell_far hgr2 hne ?_; assumption))
               · (first | (refine (hb1.cell hsz).trans ?_; assumption) | (refine cell_far hgr2 hne ?_; assumption))))
          (first
            | (go_at_call 48; refine (field_any s n cd _).mono ?_; rintro e w3 ⟨rfl, hb1⟩; obtain ⟨w2, hup, HM3, hgr2⟩ := (HM2.below (below_of_drew hb1) HM2.lt).store hlen (p := ((n : Int), (cd : Int))) Hwx.out.2.1 Hwx.out.2.2 Hwx.out.1)
            | fail)
        have hbel3 : Below w1.heap.size w1 w2 := (hbel2.trans ((below_of_drew hb1).mono hbel2.size)).grown hgr2 (Nat.le_trans hbel2.size hb1.size) (fun j hj => by injection hj with hj; omega)
        have HM4 : MapC w2 w1.heap.size (k + 1) (codeF (ws.take (k + 1))) := by
          rw [take_snoc Hx.out, codeF_snoc]; exact HM3
        clear HM2 HM3 hup hbel2 hb1 hgr2
        go_wp2_with fail
        go_roundg (ws.length - (k + 1))
        case rel => exact ⟨k + 1, rfl, by omega, by go_num, HM4, hbel3⟩
        case measure => omega
      · obtain rfl : k = ws.length := by omega
        rw [List.take_length] at HM
        have hz := hbel.size
        have hwl := Hwl.out
        go_wp2
        go_ret2
        exact ⟨_, ret_two rfl (by rw [H0.out]; rfl), fun _ => ⟨_, rfl, by omega, by rw [← hwl, How.out]; exact HM⟩, fun h => absurd H0.out h, hbel1.trans (hbel.mono hbel1.size)⟩
  · have hne : (checkErr cs syms != 0) = true := by simpa using h0
    have H0 := veil h0
    clear h0 Hck HO
    obtain ⟨E, hE⟩ : ∃ E, E = checkErr cs syms := ⟨_, rfl⟩
    rw [← hE] at hne ⊢
    have HE := veil hE
    clear hE
    go_wp2
    go_ret2
    exact ⟨_, ret_two rfl (by rw [← HE.out]; rfl), fun h => absurd h H0.out, fun _ => rfl, hbel1⟩
end Go.Proofs.YtddkhkpdbjjboaaGreat
