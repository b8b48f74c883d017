/- Texts shared by the claims of this seat, in one. -/
import Derived.Test.YtddkhkpdbjjboaaGreatBd5
import Derived.Test.YtddkhkpdbjjboaaGreatBd10
import Derived.Test.YtddkhkpdbjjboaaGreatBd4
import Derived.Test.YtddkhkpdbjjboaaGreatBd12
import Derived.Test.YtddkhkpdbjjboaaGreatBd9
import Derived.Test.YtddkhkpdbjjboaaGreatBd6
import Derived.Deep.Cut
import Derived.Test.YtddkhkpdbjjboaaGreatBd1
import Derived.Test.YtddkhkpdbjjboaaGreatRows
import Derived.Test.YtddkhkpdbjjboaaGreatBd3
import Derived.Laws.DeepStrings4
import Derived.Lib.Builder
import Derived.Lib.UnsafeStr
import Derived.Lib.AppendStr
import Derived.Laws.Externs
import Derived.Laws.Strings3
/- stuff.Split: its contract. -/
namespace Go.Proofs.YtddkhkpdbjjboaaGreat
open Go.RowKit
set_option linter.unusedVariables false
set_option linter.unusedSimpArgs false
set_option maxRecDepth 100000

theorem elem_bytes : ElemOf Tryz.prog 42 28 1 24 := .mk' (z := .slice none 0 0) Tryz.underlying42 (by kernel_rfl) rfl (by omega)
/-- A row of slices. -/
abbrev pileRow (v : Value) (vs : List Value) : Row := ⟨28, 1, v, vs.length, vs⟩
theorem pile_snoc (v : Value) (vs : List Value) (u : Value) : (⟨28, 1, v, vs.length + [u].length, vs ++ [u]⟩ : Row) = pileRow v (vs ++ [u]) := by simp [pileRow]
theorem zip_snoc {vs : List Value} {ps : List (List Int)} (h : vs.length = ps.length) (u : Value) (p : List Int) : List.zipWith byteRow (vs ++ [u]) (ps ++ [p]) = List.zipWith byteRow vs ps ++ [byteRow u p] := by
  rw [List.zipWith_append h]; rfl
/-- A piece is done; the next one begins. -/
theorem Owns.next {B : Nat} {w : World} {v m u : Value} {vs : List Value} {ms cur : List Int} {ps : List (List Int)} (hl : vs.length = ps.length)
    (h : Owns B (pileRow v (vs ++ [u]) :: numRow m ms :: byteRow u cur :: List.zipWith byteRow vs ps) w) :
    Owns B (pileRow v (vs ++ [u]) :: numRow m ms :: byteRow (.slice none 0 0) [] :: List.zipWith byteRow (vs ++ [u]) (ps ++ [cur])) w := by
  rw [zip_snoc hl]
  refine (h.fresh 5 1).toThird.perm (.cons _ (.cons _ (.cons _ ?_)))
  exact (List.perm_append_comm (l₁ := [byteRow u cur]) (l₂ := List.zipWith byteRow vs ps))
theorem Owns.finish {B : Nat} {w : World} {v m u : Value} {vs : List Value} {ms cur : List Int} {ps : List (List Int)} (hl : vs.length = ps.length)
    (h : Owns B (pileRow v (vs ++ [u]) :: numRow m ms :: byteRow u cur :: List.zipWith byteRow vs ps) w) :
    Owns B (pileRow v (vs ++ [u]) :: numRow m ms :: List.zipWith byteRow (vs ++ [u]) (ps ++ [cur])) w := by
  have h2 := (h.next hl).third.tail
  exact h2

set_option maxHeartbeats 2000000 in
theorem split_any (A : Option Addr) (c G : Nat) (bs : List Int) (w : World) (hb : Seen w G A (ints .u8 bs)) (hG : G ≤ w.heap.size) (hl : bs.length ≤ 1099511627776) (hby : ∀ x ∈ bs, 0 ≤ x ∧ x ≤ 255) :
    Calls Tryz.prog 24 #[.slice A bs.length c] w fun e w' => ∃ vs v m, e = .returned (.tuple #[v, m, .int .i64 (splitErr bs)]) ∧ vs.length = (splitP bs).length ∧
      Owns w.heap.size (pileRow v vs :: numRow m (splitM bs) :: List.zipWith byteRow vs (splitP bs)) w' ∧ Below w.heap.size w w' := by
  have Hby := veil hby; clear hby
  go_enter Tryz.func24, Tryz.ntmps24
  go_wp2_with fail
  go_loopg [5, 6, 7, 8] bs.length (fun gk v m u i wr => ∃ (k : Nat) (ps : List (List Int)) (ms cur : List Int) (vs : List Value), gk = bs.length - k ∧ k ≤ bs.length ∧ i = .int .i64 k ∧ Hid (SInv bs k ps ms cur) ∧ vs.length = ps.length ∧ vs.length ≤ k ∧ ms.length ≤ k ∧ cur.length ≤ k ∧
    Owns w.heap.size (pileRow v vs :: numRow m ms :: byteRow u cur :: List.zipWith byteRow vs ps) wr ∧ Below w.heap.size w wr)
  case atStart => exact ⟨0, [], [], [], [], rfl, Nat.zero_le _, rfl, veil (SInv.start bs), rfl, Nat.zero_le _, Nat.zero_le _, Nat.zero_le _, (((Owns.start w).fresh _ _).fresh _ _).fresh _ _, Below.refl _ _⟩
  case round =>
    obtain ⟨k, ps, ms, cur, vs, rfl, hk, rfl, HI, hvp, hvk, hmk, hck, HO, hbel⟩ := hrel
    have hB := hbel.size
    by_cases hlt : k < bs.length
    · obtain ⟨g, o, x, rfl, hg, hx, h1⟩ := hb.int hlt
      have Hx := veil hx; clear hx
      rw [← hbel.cell (by simp; omega)] at h1
      by_cases h255 : x = 255
      · subst h255
        by_cases hlast : k + 1 = bs.length
        · have hpn := HI.out.last Hx.out hlast
          obtain ⟨hp1, hp2, hp3⟩ := split_none hpn
          have Hp := veil hp1; have Hm := veil hp2; have He := veil hp3
          have hlast' : (k : Int) + 1 = (bs.length : Int) := by omega
          clear hpn hp1 hp2 hp3
          go_wp2
          go_ret3
          exact ⟨[], _, _, ret_three rfl rfl (by rw [He.out]; rfl), by rw [Hp.out]; rfl, by rw [Hp.out, Hm.out]; exact ((Owns.nil hbel.size).fresh _ _).fresh _ _, hbel⟩
        · obtain ⟨g2, o2, y, e2, hg2, hy, h2⟩ := hb.int (k := k + 1) (by omega)
          injection e2 with e2
          injection e2 with e3 e4
          subst e3 e4
          have hyb := Hby.out y (List.mem_of_getElem? hy)
          have Hy := veil hy; clear hy
          rw [← hbel.cell (by simp; omega)] at h2
          have hne : ¬ ((k : Int) + 1 = (bs.length : Int)) := by omega
          have hlt2 : (k : Int) + 1 < (bs.length : Int) := by omega
          by_cases hy255 : y = 255
          · subst hy255
            have hpn := HI.out.two Hx.out Hy.out
            obtain ⟨hp1, hp2, hp3⟩ := split_none hpn
            have Hp := veil hp1; have Hm := veil hp2; have He := veil hp3
            clear hpn hp1 hp2 hp3
            go_wp2
            go_ret3
            exact ⟨[], _, _, ret_three rfl rfl (by rw [He.out]; rfl), by rw [Hp.out]; rfl, by rw [Hp.out, Hm.out]; exact ((Owns.nil hbel.size).fresh _ _).fresh _ _, hbel⟩
          · by_cases hy0 : y = 0
            · subst hy0
              go_wp2_with (at_builtin; go_loud (refine wpList_ownI _ rfl (.tmp 45) (.tmp 46) _ rfl w.heap.size 5 .u8 1 elem_byte u7 cur (pileRow u5 vs :: numRow u6 ms :: List.zipWith byteRow vs ps) rfl HO.third [255, 0] rfl (by unfold maxLen; simp; omega) (by simp; omega) ?_); intro v1 w1 HO1 hb1 hz1)
              go_roundg (bs.length - (k + 2))
              case rel => exact ⟨k + 2, ps, ms, cur ++ [255, 0], vs, rfl, by omega, by go_num, veil (HI.out.pad Hx.out Hy.out), hvp, by omega, by omega, by simp; omega, HO1.toThird, hbel.trans hb1⟩
              case measure => omega
            · have hn1 : (y == 255) = false := by simpa using hy255
              have hn2 : (y == 0) = false := by simpa using hy0
              have H1 := veil hy255; have H2 := veil hy0
              clear hy255 hy0
              obtain ⟨A7, c7, e7, _, _, _⟩ := HO.third.seen (List.mem_cons_self ..)
              simp only [byteRow, intRow] at e7
              subst e7
              go_wp2_with (first
                | (at_builtin; go_loud (refine wpList_ownN _ rfl (.tmp 48) (.tmp 50) _ rfl w.heap.size 28 24 elem_bytes u5 vs.length vs (numRow u6 ms :: byteRow (.slice A7 cur.length c7) cur :: List.zipWith byteRow vs ps) rfl HO [.slice A7 cur.length c7] rfl (by simp [Value.oneCell']) (by unfold maxLen; simp; omega) (by simp; omega) ?_); intro v1 w1 HO1 hb1 hz1; have h2' := h2; rw [← hb1.cell (by simp; omega)] at h2')
                | (at_builtin; go_loud (refine wpList_ownI _ rfl (.tmp 52) (.tmp 58) _ rfl w.heap.size 3 .i64 8 elem_int u6 ms (pileRow v1 (vs ++ [.slice A7 cur.length c7]) :: byteRow (.slice A7 cur.length c7) cur :: List.zipWith byteRow vs ps) rfl (by rw [← pile_snoc]; exact HO1.swap) [y] rfl (by unfold maxLen; simp; omega) (by simp; omega) ?_); intro v2 w2 HO2 hb2 hz2))
              go_roundg (bs.length - (k + 2))
              case rel => exact ⟨k + 2, ps ++ [cur], ms ++ [y], [], vs ++ [.slice A7 cur.length c7], rfl, by omega, by go_num, veil (HI.out.mark Hx.out Hy.out H1.out H2.out), by simp [hvp], by simp; omega, by simp; omega, by simp, HO2.swap.next hvp, (hbel.trans hb1).trans hb2⟩
              case measure => omega
      · have hxb : (x != 255) = true := by simpa using h255
        have H255 := veil h255; clear h255
        go_wp2_with (at_builtin; go_loud (refine wpList_ownI _ rfl (.tmp 20) (.tmp 25) _ rfl w.heap.size 5 .u8 1 elem_byte u7 cur (pileRow u5 vs :: numRow u6 ms :: List.zipWith byteRow vs ps) rfl HO.third [x] rfl (by unfold maxLen; simp; omega) (by simp; omega) ?_); intro v1 w1 HO1 hb1 hz1)
        go_roundg (bs.length - (k + 1))
        case rel => exact ⟨k + 1, ps, ms, cur ++ [x], vs, rfl, by omega, by go_num, veil (HI.out.other Hx.out H255.out), hvp, by omega, by omega, by simp; omega, HO1.toThird, hbel.trans hb1⟩
        case measure => omega
    · obtain rfl : k = bs.length := by omega
      obtain ⟨hp1, hp2, hp3⟩ := split_some HI.out.done
      have Hp := veil hp1; have Hm := veil hp2; have He := veil hp3
      clear hp1 hp2 hp3
      obtain ⟨A7, c7, e7, _, _, _⟩ := HO.third.seen (List.mem_cons_self ..)
      simp only [byteRow, intRow] at e7
      subst e7
      go_wp2_with (at_builtin; go_loud (refine wpList_ownN _ rfl (.tmp 60) (.tmp 62) _ rfl w.heap.size 28 24 elem_bytes u5 vs.length vs (numRow u6 ms :: byteRow (.slice A7 cur.length c7) cur :: List.zipWith byteRow vs ps) rfl HO [.slice A7 cur.length c7] rfl (by simp [Value.oneCell']) (by unfold maxLen; simp; omega) (by simp; omega) ?_); intro v1 w1 HO1 hb1 hz1)
      go_ret3
      exact ⟨vs ++ [.slice A7 cur.length c7], _, _, ret_three rfl rfl (by rw [He.out]; rfl), by rw [Hp.out]; simp [hvp], by rw [Hp.out, Hm.out]; rw [pile_snoc] at HO1; exact HO1.finish hvp, hbel.trans hb1⟩
end Go.Proofs.YtddkhkpdbjjboaaGreat

/- The reference's Split: the same contract, its pieces lying in what came in. -/
namespace Go.Proofs.YtddkhkpdbjjboaaGreat
open Go.RowKit
set_option linter.unusedVariables false
set_option linter.unusedSimpArgs false
set_option maxRecDepth 100000

theorem run_cut (A : Option Addr) (n c f h : Nat) (h1 : f ≤ h) (h2 : h ≤ c) (u : World) : (Instr.sliceAt 28 (.slice A n c) (some (.int .i64 (f : Int))) (some (.int .i64 (h : Int))) none).run Tryz.prog u = .ok (cutV A f h c) u := by
  have he : Tryz.prog.underlying 28 = some (.slice (Tryz.prog.elem 28)) := by kernel_rfl
  have hz : (sizeOf (Tryz.prog.elem 28)).run Tryz.prog u = .ok 1 u := by kernel_rfl
  rw [run_sliceAt_slice _ _ _ _ _ _ he, run_slice_lh _ _ _ _ _ he _ _ _ _ (by omega) (by omega) (by omega), hz]
  simp [Result.andThen, sliced, cutV]
theorem run_cut_end (A : Option Addr) (n c f : Nat) (h1 : f ≤ n) (u : World) : (Instr.sliceAt 28 (.slice A n c) (some (.int .i64 (f : Int))) none none).run Tryz.prog u = .ok (cutV A f n c) u := by
  have he : Tryz.prog.underlying 28 = some (.slice (Tryz.prog.elem 28)) := by kernel_rfl
  have hz : (sizeOf (Tryz.prog.elem 28)).run Tryz.prog u = .ok 1 u := by kernel_rfl
  rw [run_sliceAt_slice _ _ _ _ _ _ he, run_slice_l _ _ _ _ _ he _ _ (by omega) (by omega), hz]
  simp [Result.andThen, sliced, cutV]
theorem cut_snoc {bs : List Int} {f k : Nat} {x : Int} (h : bs[k]? = some x) (hf : f ≤ k) : (bs.drop f).take (k + 1 - f) = (bs.drop f).take (k - f) ++ [x] := by
  rw [show k + 1 - f = k - f + 1 by omega]
  apply take_snoc
  rw [List.getElem?_drop, show f + (k - f) = k by omega]
  exact h
theorem cut_two {bs : List Int} {f k : Nat} {x y : Int} (h : bs[k]? = some x) (h2 : bs[k + 1]? = some y) (hf : f ≤ k) : (bs.drop f).take (k + 2 - f) = (bs.drop f).take (k - f) ++ [x, y] := by
  rw [show k + 2 - f = k + 1 + 1 - f by omega, cut_snoc h2 (by omega), cut_snoc h hf]; simp

set_option maxHeartbeats 4000000 in
theorem refSplit_any (A : Option Addr) (c G : Nat) (bs : List Int) (w : World) (hb : Seen w G A (ints .u8 bs)) (hG : G ≤ w.heap.size) (hl : bs.length ≤ 1099511627776) (hlc : bs.length ≤ c) (hby : ∀ x ∈ bs, 0 ≤ x ∧ x ≤ 255) :
    Calls Tryz.prog 31 #[.slice A bs.length c] w fun e w' => ∃ vs v m, e = .returned (.tuple #[v, m, .int .i64 (splitErr bs)]) ∧ SeenRows w' G .u8 vs (splitP bs) ∧
      Owns w.heap.size [pileRow v vs, numRow m (splitM bs)] w' ∧ Below w.heap.size w w' := by
  have Hby := veil hby; clear hby
  go_enter Tryz.func31, Tryz.ntmps31
  go_wp2_with fail
  go_loopg [5, 6, 7, 8] bs.length (fun gk v m f i wr => ∃ (k fr : Nat) (ps : List (List Int)) (ms : List Int) (vs : List Value), gk = bs.length - k ∧ k ≤ bs.length ∧ fr ≤ k ∧ i = .int .i64 k ∧ f = .int .i64 fr ∧ Hid (SInv bs k ps ms ((bs.drop fr).take (k - fr))) ∧ vs.length ≤ k ∧ ms.length ≤ k ∧
    SeenRows wr G .u8 vs ps ∧ Owns w.heap.size [pileRow v vs, numRow m ms] wr ∧ Below w.heap.size w wr)
  case atStart => exact ⟨0, 0, [], [], [], rfl, Nat.zero_le _, Nat.le_refl _, rfl, rfl, veil (SInv.start bs), Nat.zero_le _, Nat.zero_le _, SeenRows.nil _ _ _, ((Owns.start w).fresh _ _).fresh _ _, Below.refl _ _⟩
  case round =>
    obtain ⟨k, fr, ps, ms, vs, rfl, hk, hfk, rfl, rfl, HI, hvk, hmk, hsr, HO, hbel⟩ := hrel
    have hB := hbel.size
    by_cases hlt : k < bs.length
    · obtain ⟨g, o, x, rfl, hg, hx, h1⟩ := hb.int hlt
      have Hx := veil hx; clear hx
      rw [← hbel.cell (by simp; omega)] at h1
      by_cases h255 : x = 255
      · subst h255
        by_cases hlast : k + 1 = bs.length
        · have hpn := HI.out.last Hx.out hlast
          obtain ⟨hp1, hp2, hp3⟩ := split_none hpn
          have Hp := veil hp1; have Hm := veil hp2; have He := veil hp3
          have hlast' : (k : Int) + 1 = (bs.length : Int) := by omega
          clear hpn hp1 hp2 hp3
          go_wp2
          go_ret3
          exact ⟨[], _, _, ret_three rfl rfl (by rw [He.out]; rfl), by rw [Hp.out]; exact SeenRows.nil _ _ _, by rw [Hm.out]; exact ((Owns.nil hbel.size).fresh _ _).fresh _ _, hbel⟩
        · obtain ⟨g2, o2, y, e2, hg2, hy, h2⟩ := hb.int (k := k + 1) (by omega)
          injection e2 with e2
          injection e2 with e3 e4
          subst e3 e4
          have hyb := Hby.out y (List.mem_of_getElem? hy)
          have Hy := veil hy; clear hy
          rw [← hbel.cell (by simp; omega)] at h2
          have hne : ¬ ((k : Int) + 1 = (bs.length : Int)) := by omega
          have hlt2 : (k : Int) + 1 < (bs.length : Int) := by omega
          by_cases hy255 : y = 255
          · subst hy255
            have hpn := HI.out.two Hx.out Hy.out
            obtain ⟨hp1, hp2, hp3⟩ := split_none hpn
            have Hp := veil hp1; have Hm := veil hp2; have He := veil hp3
            clear hpn hp1 hp2 hp3
            go_wp2
            go_ret3
            exact ⟨[], _, _, ret_three rfl rfl (by rw [He.out]; rfl), by rw [Hp.out]; exact SeenRows.nil _ _ _, by rw [Hm.out]; exact ((Owns.nil hbel.size).fresh _ _).fresh _ _, hbel⟩
          · by_cases hy0 : y = 0
            · subst hy0
              go_wp2
              go_roundg (bs.length - (k + 2))
              case rel => exact ⟨k + 2, fr, ps, ms, vs, rfl, by omega, by omega, by go_num, rfl, veil (by rw [cut_two Hx.out Hy.out hfk]; exact HI.out.pad Hx.out Hy.out), by omega, by omega, hsr, HO, hbel⟩
              case measure => omega
            · have hn1 : (y == 255) = false := by simpa using hy255
              have hn2 : (0 : Int) < y := by omega
              have HI2 := veil (HI.out.mark Hx.out Hy.out hy255 hy0)
              clear hy255 hy0
              have hcut := run_cut (some ⟨g, o, none⟩) bs.length c fr k hfk (by omega)
              obtain ⟨A', hcv, hsc⟩ := cutV_seen (hb.below hbel hG) hfk (Nat.le_of_lt hlt) (show k ≤ c by omega)
              have hcl := cutV_length (f := fr) (Nat.le_of_lt hlt)
              rw [hcv] at hcut
              clear hcv
              generalize (bs.drop fr).take (k - fr) = cur at *
              rw [← hcl] at hcut
              have hcll : cur.length ≤ maxLen := by unfold maxLen; omega
              clear hcl
              have hsr1 := hsr.snoc (c := c - fr) hsc hcll
              have hone : ∀ u ∈ [Value.slice A' cur.length (c - fr)], u.oneCell' = true := by simp [Value.oneCell']
              have hone2 : ∀ u ∈ [Value.int .i64 y], u.oneCell' = true := by simp [Value.oneCell']
              generalize c - fr = c9 at *
              go_wp2_with fail
              have hn1' : vs.length + 1 ≤ maxLen := by unfold maxLen; omega
              have hn2' : (vs.length + 1) * 24 ≤ 140737488355328 := by omega
              have hm1' : ms.length + 1 ≤ maxLen := by unfold maxLen; omega
              have hm2' : (ms.length + 1) * 8 ≤ 140737488355328 := by omega
              have hrow : ∀ g, u5.ownBlock = some g → g < wr.heap.size := fun g hg => (HO.head.lt g hg).2
              have hne5 : some g ≠ u5.ownBlock := fun e => by have := (HO.head.lt g e.symm).1; omega
              have hne6 : some g ≠ u6.ownBlock := fun e => by have := (HO.tail.head.lt g e.symm).1; omega
              have hw1 : IntKind.i64.wrap ((k : Int) + 1) = (k : Int) + 1 := by rw [IntKind.wrap_i64]; omega
              have hwy : IntKind.i64.wrap y = y := by rw [IntKind.wrap_i64]; omega
              have hw2 : (0 : Int) ≤ (k : Int) + 1 := by omega
              have hw3 : ((k : Int) + 1).toNat = k + 1 := by omega
              generalize hW : wr = W at *
              have h2' : Hid (W.cell? ⟨g, o + (k + 1), none⟩ = some (.int .u8 y)) := h2
              go_region_held3 (fun w' => w'.cell? ⟨g, o + (k + 1), none⟩ = some (.int .u8 y))
                (first
                  | go_keep
                  | (refine reg_far hgr54 hne6 ?_; assumption)
                  | (refine reg_far hgr45 hne5 ?_; assumption))
                (first
                  | (refine step_ownV _ ?a45c1 (.tmp 39) (.tmp 44) _ ?b45c1 w.heap.size 28 1 24 elem_bytes u5 vs.length vs [numRow u6 ms] ?c45c1 (HO.drew.alloc _) _ (some ⟨W.heap.size, 0, none⟩) 1 1 [Value.slice A' cur.length c9] ?d45c1 (Seen.new W.drew _ _ (W.heap.size + 2) (reg_by0 W)) rfl hone hn1' hn2' ?_
                     case b45c1 => rfl
                     case a45c1 => rfl
                     case c45c1 => rfl
                     case d45c1 => rfl
                     intro v45 w45 HO45 hgr45 hbl45)
                  | (refine step_ownV _ ?a45c2 (.tmp 39) (.tmp 44) _ ?b45c2 w.heap.size 28 1 24 elem_bytes u5 vs.length vs [numRow u6 ms] ?c45c2 ((HO.drew.alloc _).alloc _) _ (some ⟨W.heap.size, 0, none⟩) 1 1 [Value.slice A' cur.length c9] ?d45c2 (reg_new0 W _ _) rfl hone hn1' hn2' ?_
                     case b45c2 => rfl
                     case a45c2 => rfl
                     case c45c2 => rfl
                     case d45c2 => rfl
                     intro v45 w45 HO45 hgr45 hbl45)
                  | (refine step_ownV _ ?a45c4 (.tmp 39) (.tmp 44) _ ?b45c4 w.heap.size 28 1 24 elem_bytes u5 vs.length vs [numRow u6 ms] ?c45c4 ((HO.drew.alloc _).alloc _) _ (some ⟨W.heap.size + 1, 0, none⟩) 1 1 [Value.slice A' cur.length c9] ?d45c4 (reg_new1 W _ _) rfl hone hn1' hn2' ?_
                     case b45c4 => rfl
                     case a45c4 => rfl
                     case c45c4 => rfl
                     case d45c4 => rfl
                     intro v45 w45 HO45 hgr45 hbl45)
                  | (refine step_ownV _ ?a54c6 (.tmp 46) (.tmp 53) _ ?b54c6 w.heap.size 3 1 8 elem_int u6 ms.length (ints .i64 ms) [⟨28, 1, v45, vs.length + 1, vs ++ [Value.slice A' cur.length c9]⟩] ?c54c6 (HO45.swap.alloc _) _ (some ⟨w45.heap.size, 0, none⟩) 1 1 [Value.int IntKind.i64 y] ?d54c6 (Seen.new w45 _ _ (w45.heap.size + 1) (Nat.lt_succ_self _)) rfl hone2 hm1' hm2' ?_
                     case b54c6 => rfl
                     case a54c6 => rfl
                     case c54c6 => rfl
                     case d54c6 => rfl
                     intro v54 w54 HO54 hgr54 hbl54)
                  | (refine step_ownV _ ?a54c3 (.tmp 46) (.tmp 53) _ ?b54c3 w.heap.size 3 1 8 elem_int u6 ms.length (ints .i64 ms) [⟨28, 1, v45, vs.length + 1, vs ++ [Value.slice A' cur.length c9]⟩] ?c54c3 (HO45.swap) _ (some ⟨W.heap.size, 0, none⟩) 1 1 [Value.int IntKind.i64 y] ?d54c3 (reg_grown (reg_new0 W _ _) hgr45 hrow (reg_lt0 W _ _)) rfl hone2 hm1' hm2' ?_
                     case b54c3 => rfl
                     case a54c3 => rfl
                     case c54c3 => rfl
                     case d54c3 => rfl
                     intro v54 w54 HO54 hgr54 hbl54)
                  | (refine step_ownV _ ?a54c5 (.tmp 46) (.tmp 53) _ ?b54c5 w.heap.size 3 1 8 elem_int u6 ms.length (ints .i64 ms) [⟨28, 1, v45, vs.length + 1, vs ++ [Value.slice A' cur.length c9]⟩] ?c54c5 (HO45.swap) _ (some ⟨W.heap.size + 1, 0, none⟩) 1 1 [Value.int IntKind.i64 y] ?d54c5 (reg_grown (reg_new1 W _ _) hgr45 (fun g hg => Nat.lt_succ_of_lt (hrow g hg)) (reg_lt1 W _ _)) rfl hone2 hm1' hm2' ?_
                     case b54c5 => rfl
                     case a54c5 => rfl
                     case c54c5 => rfl
                     case d54c5 => rfl
                     intro v54 w54 HO54 hgr54 hbl54)
                  | fail)
              all_goals
                have hbW : Below w.heap.size W w54 := by first | exact reg_below2 hbl45 hbl54 hB | exact reg_below1 hbl45 hbl54 hB
                have hfin : Owns w.heap.size [pileRow v45 (vs ++ [Value.slice A' cur.length c9]), numRow v54 (ms ++ [y])] w54 := by
                  have h := HO54.swap
                  simpa [pileRow, numRow, intRow, ints_append, ints] using h
                have hsr2 := hsr1.below hbW hG
                have hbw2 := hbel.trans hbW
                clear hbW HO HO45 HO54 hbl45 hbl54 hgr45 hgr54 hsr1 hsr hcut h2 h1 h2'
                go_wp2
                go_roundg (bs.length - (k + 2))
                case rel => exact ⟨k + 2, k + 2, ps ++ [cur], ms ++ [y], _, rfl, by omega, by omega, by go_num, by go_num, veil (by simpa using HI2.out), by simp; omega, by simp; omega, hsr2, hfin, hbw2⟩
                case measure => omega
      · have hxb : (x != 255) = true := by simpa using h255
        have H255 := veil h255; clear h255
        go_wp2
        go_roundg (bs.length - (k + 1))
        case rel => exact ⟨k + 1, fr, ps, ms, vs, rfl, by omega, by omega, by go_num, rfl, veil (by rw [cut_snoc Hx.out hfk]; exact HI.out.other Hx.out H255.out), by omega, by omega, hsr, HO, hbel⟩
        case measure => omega
    · obtain rfl : k = bs.length := by omega
      obtain ⟨hp1, hp2, hp3⟩ := split_some HI.out.done
      have Hp := veil hp1; have Hm := veil hp2; have He := veil hp3
      clear hp1 hp2 hp3
      have hcut := run_cut_end A bs.length c fr hfk
      obtain ⟨A', hcv, hsc⟩ := cutV_seen (hb.below hbel hG) hfk (Nat.le_refl _) hlc
      have hcl := cutV_length (f := fr) (Nat.le_refl bs.length)
      rw [hcv] at hcut
      clear hcv
      generalize hcur : (bs.drop fr).take (bs.length - fr) = cur at *
      have Hcur := veil hcur; clear hcur
      rw [← hcl] at hcut
      have hcll : cur.length ≤ maxLen := by unfold maxLen; omega
      clear hcl
      go_wp2_with (at_builtin; go_loud (refine wpList_ownN _ rfl (.tmp 59) (.tmp 63) _ rfl w.heap.size 28 24 elem_bytes u5 vs.length vs [numRow u6 ms] rfl HO [.slice A' cur.length (c - fr)] rfl (by simp [Value.oneCell']) (by unfold maxLen; simp; omega) (by simp; omega) ?_); intro v1 w1 HO1 hb1 hz1)
      go_ret3
      have hsr1 := (hsr.snoc (c := c - fr) hsc hcll).below hb1 hG
      exact ⟨vs ++ [.slice A' cur.length (c - fr)], _, _, ret_three rfl rfl (by rw [He.out]; rfl), by rw [Hp.out]; exact hsr1, by rw [Hm.out]; rw [pile_snoc] at HO1; exact HO1, hbel.trans hb1⟩
end Go.Proofs.YtddkhkpdbjjboaaGreat

/- The reference's scanPieces: its contract. -/
namespace Go.Proofs.YtddkhkpdbjjboaaGreat
open Go.RowKit
set_option linter.unusedVariables false
set_option linter.unusedSimpArgs false
set_option maxRecDepth 100000

set_option maxRecDepth 100000 in
set_option maxHeartbeats 2000000 in
theorem refPieces_any (cs syms : List Int) (A : Option Addr) (c : Nat) (cs2 syms2 : List Int) (A2 : Option Addr) (c2 G : Nat) (bs : List Int) (A3 : Option Addr) (c3 : Nat) (n every : Int) (w : World)
    (hcs : cs.length = 16) (hn : syms.length ≤ maxLen) (hcap : syms.length ≤ c) (hb : ∀ x ∈ cs, -9223372036854775808 ≤ x ∧ x ≤ 9223372036854775807) (hs : Seen w G A (ints .i64 syms))
    (hcs2 : cs2.length = 16) (hn2 : syms2.length ≤ maxLen) (hcap2 : syms2.length ≤ c2) (hb2 : ∀ x ∈ cs2, -9223372036854775808 ≤ x ∧ x ≤ 9223372036854775807) (hs2 : Seen w G A2 (ints .i64 syms2))
    (hs3 : Seen w G A3 (ints .u8 bs)) (hby : ∀ x ∈ bs, 0 ≤ x ∧ x ≤ 255) (hl : bs.length ≤ 1099511627776) (hcap3 : bs.length ≤ c3) (hG : G ≤ w.heap.size) :
    Calls Tryz.prog 16 #[tabsV cs A syms.length c cs2 A2 syms2.length c2, .slice A3 bs.length c3, .int .i64 n, .int .i64 every] w fun e w' => ∃ vs v m, e = .returned (.tuple #[v, m, .int .i64 (eHead cs syms cs2 syms2 bs n every)]) ∧ SeenRows w' G .u8 vs (headP cs syms cs2 syms2 bs n every) ∧ Owns w.heap.size [pileRow v vs, numRow m (headM cs syms cs2 syms2 bs n every)] w' ∧ Below w.heap.size w w' := by
  have h34 : (tabsCells cs A syms.length c cs2 A2 syms2.length c2).length = 34 := by unfold tabsCells; rw [List.length_append, tabCells_length hcs, tabCells_length hcs2]
  have HCk := veil (fun W h1 h2 hG => tablesCheck_any cs syms A c cs2 syms2 A2 c2 G W hcs hn hcap hb h1 hcs2 hn2 hcap2 hb2 h2 hG)
  have HSp := veil (fun W h hG => refSplit_any A3 c3 G bs W h hG hl hcap3 hby)
  have hb0 := below1 w (.cells (tabsCells cs A syms.length c cs2 A2 syms2.length c2).toArray 27)
  have hz0 : (w.alloc (.cells (tabsCells cs A syms.length c cs2 A2 syms2.length c2).toArray 27)).heap.size = w.heap.size + 1 := by simp
  have hr0 := range_new w (tabsCells cs A syms.length c cs2 A2 syms2.length c2) 27
  obtain ⟨E, hE⟩ : ∃ E, E = eHead cs syms cs2 syms2 bs n every := ⟨_, rfl⟩
  obtain ⟨P, hP⟩ : ∃ P, P = headP cs syms cs2 syms2 bs n every := ⟨_, rfl⟩
  obtain ⟨M, hM⟩ : ∃ M, M = headM cs syms cs2 syms2 bs n every := ⟨_, rfl⟩
  rw [← hE, ← hP, ← hM]
  have HPe : Hid (E ≠ 0 → P = [] ∧ M = []) := by
    show _ → _
    intro h
    rw [hP, hM]
    exact ⟨if_neg (by rw [← hE]; exact h), if_neg (by rw [← hE]; exact h)⟩
  have HE := veil hE
  have HP := veil hP
  have HM := veil hM
  have H34 := veil h34
  clear hcs hcs2 hb hb2 hE hP hM h34 hn hn2 hcap hcap2 hby hcap3
  unfold tabsV at HCk ⊢
  generalize tabsCells cs A syms.length c cs2 A2 syms2.length c2 = zs at *
  obtain ⟨W0, hW0⟩ : ∃ W0, W0 = w.alloc (.cells zs.toArray 27) := ⟨_, rfl⟩
  have HW0 := veil hW0
  rw [← hW0] at hb0 hz0 hr0
  clear hW0
  go_enter Tryz.func16, Tryz.ntmps16
  by_cases hrg : every < 0 ∨ 100 < every ∨ n < 0 ∨ 400 < n
  · have hE1 := HE.out.trans (eHead_arg hrg)
    obtain ⟨hP1, hM1⟩ := HPe.out (by rw [hE1]; decide)
    have HE1 := veil hE1
    have HP1 := veil hP1
    have HM1 := veil hM1
    clear hE1 hP1 hM1
    by_cases hev : every < 0 ∨ 100 < every
    · have HOu := veil (out_yes every 0 100 (by omega) W0)
      clear hrg hev
      go_wp2_with fail
      rw [← HW0.out]
      refine HOu.out.mono ?_
      rintro e w2 ⟨rfl, hw2⟩
      rw [hw2]
      go_wp2
      go_ret3
      exact ⟨[], _, _, ret_three rfl rfl (by rw [HE1.out]; rfl), by rw [HP1.out]; exact SeenRows.nil _ _ _, by rw [HM1.out]; exact ((Owns.nil hb0.size).fresh _ _).fresh _ _, hb0⟩
    · have HOu := veil (out_no every 0 100 (by omega) W0)
      have HOn := veil (out_yes n 0 400 (by omega) W0)
      clear hrg hev
      go_wp2_with fail
      rw [← HW0.out]
      refine HOu.out.mono ?_
      rintro e w2 ⟨rfl, hw2⟩
      rw [hw2]
      go_wp2_with fail
      refine HOn.out.mono ?_
      rintro e w2 ⟨rfl, hw2⟩
      rw [hw2]
      go_wp2
      go_ret3
      exact ⟨[], _, _, ret_three rfl rfl (by rw [HE1.out]; rfl), by rw [HP1.out]; exact SeenRows.nil _ _ _, by rw [HM1.out]; exact ((Owns.nil hb0.size).fresh _ _).fresh _ _, hb0⟩
  · have Hrg := veil hrg
    have HOu := veil (out_no every 0 100 (by omega) W0)
    have HOn := veil (out_no n 0 400 (by omega) W0)
    clear hrg
    go_wp2_with fail
    rw [← HW0.out]
    refine HOu.out.mono ?_
    rintro e w2 ⟨rfl, hw2⟩
    rw [hw2]
    clear hw2
    go_wp2_with fail
    refine HOn.out.mono ?_
    rintro e w2 ⟨rfl, hw2⟩
    rw [hw2]
    clear hw2 HOu HOn HW0
    go_wp2_with (first
      | (refine wpList_load_mid rfl 27 (.tmp 4) rfl w.heap.size 0 rfl zs _ hr0 Tryz.underlying27 rfl (by rw [H34.out]; kernel_rfl) ?_)
      | fail)
    refine (HCk.out _ (hs.below hb0 hG) (hs2.below hb0 hG) (by rw [hz0]; omega)).mono ?_
    rintro e w1 ⟨rfl, hb1⟩
    have hbw1 := hb0.trans (hb1.mono (by rw [hz0]; omega))
    have hz1 := hb1.size
    rw [hz0] at hz1
    clear hr0 hb0 HCk hb1
    by_cases h0 : eTs cs syms cs2 syms2 = 0
    · rw [h0]
      have hE1 := HE.out.trans (eHead_split Hrg.out h0)
      have hPM := head_split (bs := bs) Hrg.out h0
      have hP1 := HP.out.trans hPM.1
      have hM1 := HM.out.trans hPM.2
      have HS := veil (HSp.out w1 (hs3.below hbw1 hG) (by omega))
      rw [← hE1, ← hP1, ← hM1] at HS
      clear hE1 hPM hP1 hM1 h0 HSp
      go_wp2_with fail
      refine HS.out.mono ?_
      rintro e w2 ⟨vs, v, m, rfl, hsr, HO2, hb2⟩
      have hbw2 := hbw1.trans (hb2.mono hbw1.size)
      have HO3 := HO2.down hbw1.size
      clear hb2 HS HO2
      go_wp2_with fail
      go_ret3
      exact ⟨vs, _, _, rfl, hsr, HO3, hbw2⟩
    · have hE1 := HE.out.trans (eHead_tab Hrg.out h0)
      obtain ⟨hP1, hM1⟩ := HPe.out (by rw [hE1]; exact h0)
      have HE1 := veil hE1
      have HP1 := veil hP1
      have HM1 := veil hM1
      have hne : (eTs cs syms cs2 syms2 != 0) = true := by simpa using h0
      obtain ⟨er, her⟩ : ∃ er, er = eTs cs syms cs2 syms2 := ⟨_, rfl⟩
      rw [← her] at HE1 hne ⊢
      clear hE1 hP1 hM1 h0 her
      go_wp2_with fail
      go_ret3
      exact ⟨[], _, _, ret_three rfl rfl (by rw [HE1.out]; rfl), by rw [HP1.out]; exact SeenRows.nil _ _ _, by rw [HM1.out]; exact ((Owns.nil hbw1.size).fresh _ _).fresh _ _, hbw1⟩
end Go.Proofs.YtddkhkpdbjjboaaGreat

/- The reference's parts, where all is one part. -/
namespace Go.Proofs.YtddkhkpdbjjboaaGreat
open Go.RowKit
set_option linter.unusedVariables false
set_option linter.unusedSimpArgs false
set_option maxRecDepth 100000

theorem parts0_any (n : Nat) (w : World) : Calls Tryz.prog 17 #[.int .i64 (n : Int), .int .i64 0] w fun e w' => ∃ v, e = .returned v ∧ Owns w.heap.size [intRow 3 .i64 v ([n].map Int.ofNat)] w' ∧ Below w.heap.size w w' := by
  have ho : Owns w.heap.size [intRow 3 .i64 (.slice (some ⟨w.heap.size, 0, none⟩) 1 1) ([n].map Int.ofNat)] (w.alloc (.cells #[.int .i64 (n : Int)] 3)) :=
    ⟨by simp, fun r hr => by
      rw [List.mem_singleton.1 hr]
      exact ⟨rfl, .inr ⟨w.heap.size, 1, _, rfl, Nat.le_refl _, heap_alloc_new w _, Nat.le_refl _, by unfold maxLen; decide, rfl, rfl⟩⟩, List.pairwise_singleton _ _⟩
  have Ho := veil ho
  clear ho
  go_enter Tryz.func17, Tryz.ntmps17
  go_wp2
  go_ret
  exact ⟨_, rfl, Ho.out, below1 w _⟩
end Go.Proofs.YtddkhkpdbjjboaaGreat

/- The reference's parts: its contract. -/
namespace Go.Proofs.YtddkhkpdbjjboaaGreat
open Go.RowKit
set_option linter.unusedVariables false
set_option linter.unusedSimpArgs false
set_option maxRecDepth 100000

theorem parts_one (n : Nat) (w : World) : Owns w.heap.size [intRow 3 .i64 (.slice (some ⟨w.heap.size, 0, none⟩) 1 1) ([n].map Int.ofNat)] (w.alloc (.cells #[.int .i64 (n : Int)] 3)) :=
  ⟨by simp, fun r hr => by
    rw [List.mem_singleton.1 hr]
    exact ⟨rfl, .inr ⟨w.heap.size, 1, _, rfl, Nat.le_refl _, heap_alloc_new w _, Nat.le_refl _, by unfold maxLen; decide, rfl, rfl⟩⟩, List.pairwise_singleton _ _⟩
set_option maxHeartbeats 1000000 in
theorem parts_any (n E : Nat) (w : World) (hn : n ≤ 100000) (hE : E ≤ 1000000) : Calls Tryz.prog 17 #[.int .i64 (n : Int), .int .i64 (E : Int)] w fun e w' => ∃ v, e = .returned v ∧ Owns w.heap.size [intRow 3 .i64 v ((partsN n E).map Int.ofNat)] w' ∧ Below w.heap.size w w' := by
  by_cases h0 : E = 0
  · subst h0
    have e : partsN n 0 = [n] := by unfold partsN; rw [if_pos (.inl rfl)]
    rw [e]
    exact parts0_any n w
  · by_cases hn0 : n = 0
    · subst hn0
      have e : partsN 0 E = [0] := by unfold partsN; rw [if_pos (.inr rfl)]
      rw [e]
      have Ho := veil (parts_one 0 w)
      have hE0 : ((E : Int) == 0) = false := by simp; omega
      go_enter Tryz.func17, Tryz.ntmps17
      go_wp2
      go_ret
      exact ⟨_, rfl, Ho.out, below1 w _⟩
    · have e : partsN n E = chunk E n := by unfold partsN; rw [if_neg (by omega)]
      rw [e]
      have hE0 : ((E : Int) == 0) = false := by simp; omega
      have hn1 : ((n : Int) == 0) = false := by simp; omega
      have HC0 : Hid (chunk E n = [] ++ chunk E n) := rfl
      have hst := Owns.start w
      clear e
      go_enter Tryz.func17, Tryz.ntmps17
      go_wp2_with fail
      go_loopg [0, 5] (n + 1) (fun gk mv v wr => ∃ (m : Nat) (acc : List Nat), gk = m + 1 ∧ m ≤ n ∧ mv = .int .i64 (m : Int) ∧ acc.length + m ≤ n ∧ Hid (chunk E n = acc ++ chunk E m) ∧ Owns w.heap.size [intRow 3 .i64 v (acc.map Int.ofNat)] wr ∧ Below w.heap.size w wr)
      case atStart => exact ⟨n, [], rfl, Nat.le_refl _, rfl, by simp, HC0, hst.fresh _ _, Below.refl _ _⟩
      case round =>
        clear HC0 hst
        obtain ⟨m, acc, rfl, hm, rfl, hal, HC, HO, hbel⟩ := hrel
        by_cases hm0 : m = 0
        · subst hm0
          have hc : chunk E n = acc := by rw [HC.out, chunk_zero, List.append_nil]
          have Hc := veil hc
          clear hc
          go_wp2_with fail
          go_ret
          exact ⟨_, rfl, by rw [Hc.out]; exact HO, hbel⟩
        · have hmz : (0 : Int) < (m : Int) := by omega
          have hc := chunk_pos (e := E) (n := m) h0 hm0
          have hl1 : (acc.map Int.ofNat).length = acc.length := by simp
          rcases Nat.lt_or_ge E m with hlt | hge
          · have hltz : (E : Int) < (m : Int) := by omega
            rw [Nat.min_eq_right (by omega)] at hc
            have HC2 : Hid (chunk E n = (acc ++ [E]) ++ chunk E (m - E)) := by show _ = _; rw [HC.out, hc]; simp
            have hmi : min (m : Int) (E : Int) = (E : Int) := by omega
            clear hc
            go_wp2_with (first
              | (at_builtin; go_loud (refine wpList_ownI _ rfl (.tmp 16) (.tmp 20) _ rfl w.heap.size 3 .i64 8 elem_int u5 (acc.map Int.ofNat) [] rfl HO [(E : Int)] rfl (by rw [hl1]; unfold maxLen; simp; omega) (by rw [hl1]; simp; omega) ?_); intro v4 w4 HO4 hb4 hz4)
              | fail)
            all_goals (go_roundg (m - E + 1))
            all_goals first
              | (case rel => exact ⟨m - E, acc ++ [E], rfl, by omega, by go_num, by simp; omega, HC2, by rw [List.map_append]; exact HO4, hbel.trans hb4⟩)
              | (case measure => omega)
              | omega
          · rw [Nat.min_eq_left hge, show m - E = 0 by omega] at hc
            have HC2 : Hid (chunk E n = (acc ++ [m]) ++ chunk E 0) := by show _ = _; rw [HC.out, hc]; simp
            have hmi : min (m : Int) (E : Int) = (m : Int) := by omega
            have hgez : (m : Int) ≤ (E : Int) := by omega
            clear hc
            go_wp2_with (first
              | (at_builtin; go_loud (refine wpList_ownI _ rfl (.tmp 16) (.tmp 20) _ rfl w.heap.size 3 .i64 8 elem_int u5 (acc.map Int.ofNat) [] rfl HO [(m : Int)] rfl (by rw [hl1]; unfold maxLen; simp; omega) (by rw [hl1]; simp; omega) ?_); intro v4 w4 HO4 hb4 hz4)
              | fail)
            all_goals (go_roundg 1)
            all_goals first
              | (case rel => exact ⟨0, acc ++ [m], rfl, by omega, by go_num, by simp; omega, HC2, by rw [List.map_append]; exact HO4, hbel.trans hb4⟩)
              | (case measure => omega)
              | omega
end Go.Proofs.YtddkhkpdbjjboaaGreat

/- The reference's bytesOf: whole bytes out of binary digits, the rest ones. -/
namespace Go.Proofs.YtddkhkpdbjjboaaGreat
open Go.RowKit
set_option linter.unusedVariables false
set_option linter.unusedSimpArgs false
set_option maxRecDepth 100000

theorem txt_extract (l : List Bool) (a b : Nat) : (txt l).extract a b = txt ((l.drop a).take (b - a)) := by
  apply ByteArray.ext
  simp [txt, dig, ByteArray.data_extract, List.map_take, List.map_drop]
end Go.Proofs.YtddkhkpdbjjboaaGreat

/- strings.Builder, over digits: what the reference writes into one and takes out of it. -/
namespace Go.Proofs.YtddkhkpdbjjboaaGreat
open Go.RowKit
set_option linter.unusedVariables false
set_option linter.unusedSimpArgs false
set_option maxRecDepth 100000

/-- A builder of the call's own, in block b, that holds these digits. -/
def Bld (B b : Nat) (l : List Bool) (w : World) : Prop :=
  ∃ p v, (p = .pointer none ∨ p = .pointer (some ⟨b, 0, none⟩)) ∧ B ≤ b ∧ w.heap[b]? = some (.cells #[p, v] 109 (0, 0)) ∧
    w.ownsRow B 5 1 v l.length (Lib.strCells (txt l)) ∧ v.ownBlock ≠ some b ∧ (l = [] → v = .slice none 0 0)

theorem bld_new (w : World) : Bld w.heap.size w.heap.size [] (w.alloc (.cells #[.pointer none, .slice none 0 0] 109)) :=
  ⟨_, _, .inl rfl, Nat.le_refl _, heap_alloc_new w _, World.ownsRow_nil _ _ _ _, by simp [Value.ownBlock], fun _ => rfl⟩
theorem Bld.lt {B b : Nat} {l : List Bool} {w : World} (h : Bld B b l w) : b < w.heap.size := by
  obtain ⟨p, v, _, _, hb, _⟩ := h
  rcases Nat.lt_or_ge b w.heap.size with h' | h'
  · exact h'
  · rw [Array.getElem?_eq_none h'] at hb; cases hb
theorem Bld.below {B b : Nat} {l : List Bool} {w w' : World} (h : Bld B b l w) (hb : Below w.heap.size w w') : Bld B b l w' := by
  have hlt := h.lt
  obtain ⟨p, v, hp, hB, hh, hown, hne, h0⟩ := h
  exact ⟨p, v, hp, hB, by rw [hb.block b hlt]; exact hh, own_below hown hb, hne, h0⟩

theorem info_bld : (Tryz.prog.info? 109).map (fun i => i.size) = some 2 := by kernel_rfl
theorem lies_bld : liesAt Tryz.prog Tryz.prog.depth 109 (2 / Tryz.prog.cellsOf 109) 0 109 1 = true := by kernel_rfl

set_option maxHeartbeats 1000000 in
theorem copyCheck_used (b : Nat) (w : World) (h0 : w.cell? ⟨b, 0, none⟩ = some (.pointer (some ⟨b, 0, none⟩))) :
    Calls Tryz.prog 77 #[.pointer (some ⟨b, 0, none⟩)] w fun e w' => e = .returned (.tuple #[]) ∧ w = w' := by
  obtain ⟨j, hj, _⟩ := Option.map_eq_some_iff.1 info_bld
  go_enter Tryz.func77, Tryz.ntmps77
  go_wp2
  rw [Lib.run_neq_ptr_same w _ Tryz.underlying107 hj]
  go_wp2
  go_end0
  exact ⟨rfl, rfl⟩

set_option maxHeartbeats 1000000 in
theorem copyCheck_fresh (b : Nat) (w : World) (h0 : w.cell? ⟨b, 0, none⟩ = some (.pointer none)) (hsh : w.shape? b = some (109, 2)) (hfz : w.frozen? ⟨b, 0, none⟩ = false) :
    Calls Tryz.prog 77 #[.pointer (some ⟨b, 0, none⟩)] w fun e w' => e = .returned (.tuple #[]) ∧ w.setCell ⟨b, 0, none⟩ (.pointer (some ⟨b, 0, none⟩)) = w' := by
  obtain ⟨j, hj, hjs⟩ := Option.map_eq_some_iff.1 info_bld
  go_enter Tryz.func77, Tryz.ntmps77
  go_wp2
  rw [Lib.run_to_unsafe w ⟨b, 0, none⟩ Tryz.underlying107 Tryz.underlying154 hj (by rw [hjs]; decide) hsh (Nat.zero_lt_succ 1)]
  simp only [Result.andThen]
  rw [Oper.upon_value]
  go_wp2
  rw [run_callFunc_extern Tryz.func94 (by kernel_rfl) (by kernel_rfl) (by kernel_rfl) (e := Extern.AbiNoEscape.same) (by kernel_rfl)]
  rw [Lib.run_noEscape]
  simp only [Result.andThen]
  rw [Oper.upon_value]
  go_wp2
  rw [Lib.run_from_unsafe w ⟨b, 0, none⟩ Tryz.underlying154 Tryz.underlying107 hj hsh lies_bld]
  simp only [Result.andThen]
  rw [Oper.upon_value]
  go_wp2
  go_end0
  exact ⟨rfl, rfl⟩

/-- copyCheck: behind it the builder knows its own address; it holds what it held. -/
theorem copyCheck_any (B b : Nat) (l : List Bool) (w : World) (h : Bld B b l w) :
    Calls Tryz.prog 77 #[.pointer (some ⟨b, 0, none⟩)] w fun e w' => e = .returned (.tuple #[]) ∧
      (∃ v, w'.heap[b]? = some (.cells #[.pointer (some ⟨b, 0, none⟩), v] 109 (0, 0)) ∧ w'.ownsRow B 5 1 v l.length (Lib.strCells (txt l)) ∧ v.ownBlock ≠ some b ∧ (l = [] → v = .slice none 0 0)) ∧ Below B w w' := by
  obtain ⟨p, v, hp, hB, hh, hown, hne, h0⟩ := h
  have hat : Lib.BuilderAt 109 5 B b p (Lib.strCells (txt l)) w := ⟨hB, v, hh, by rw [Lib.strCells_length, txt_size]; exact hown, hne⟩
  rcases hp with rfl | rfl
  · refine (copyCheck_fresh b w hat.cell0 hat.shape hat.frozen0).mono ?_
    rintro e w' ⟨rfl, rfl⟩
    refine ⟨rfl, ⟨v, ?_, ?_, hne, h0⟩, (Below.refl B w).setCell (p := ⟨b, 0, none⟩) hB _⟩
    · simp [World.setCell, Array.getElem?_modify, hh]
    · obtain ⟨h1, h2⟩ := hown
      refine ⟨h1, ?_⟩
      rcases h2 with h2 | ⟨g, cap, cur, hv, hg, hh2, r⟩
      · exact .inl h2
      · refine .inr ⟨g, cap, cur, hv, hg, ?_, r⟩
        rw [Below.heap_setCell _ _ _ _ (by rintro rfl; exact hne (by rw [hv]; rfl))]
        exact hh2
  · refine (copyCheck_used b w hat.cell0).mono ?_
    rintro e w' ⟨rfl, rfl⟩
    exact ⟨rfl, ⟨v, hh, hown, hne, h0⟩, Below.refl B _⟩

theorem strCells_append (a b : List Bool) : Lib.strCells (txt a) ++ Lib.strCells (txt b) = Lib.strCells (txt (a ++ b)) := by
  rw [← txt_append]; simp [Lib.strCells]

set_option maxHeartbeats 2000000 in
theorem writeString_any (B b : Nat) (l m : List Bool) (w : World) (h : Bld B b l w) (hlen : l.length + m.length ≤ 140737488355328) (hBw : B ≤ w.heap.size) :
    Calls Tryz.prog 54 #[.pointer (some ⟨b, 0, none⟩), .string (txt m)] w fun e w' => e = .returned (.tuple #[.int .i64 (txt m).size, .nilIface]) ∧ Bld B b (l ++ m) w' ∧ Below B w w' := by
  obtain ⟨i0, hi, hz0, hz1, hz2⟩ := info_parts info_byte
  have hB : B ≤ b := by obtain ⟨_, _, _, hB, _⟩ := h; exact hB
  go_enter Tryz.func54, Tryz.ntmps54
  go_wp2_with fail
  refine (copyCheck_any B b l _ h).mono ?_
  rintro e w1 ⟨rfl, ⟨v, hbk, hown, hne, hnil⟩, hb1⟩
  have c0 : w1.cell? ⟨b, 0, none⟩ = some (.pointer (some ⟨b, 0, none⟩)) := by rw [Lib.cell_of_heap hbk]; rfl
  have c1 : w1.cell? ⟨b, 1, none⟩ = some v := by rw [Lib.cell_of_heap hbk]; rfl
  go_wp2_with (at_builtin; refine Lib.wpList_append_own_string _ rfl _ _ 28 9 rfl B 5 i0 Tryz.underlying28 Tryz.underlying9 hi hz0 hz1 hz2 _ _ _ rfl hown (txt m) rfl ?c3 ?c4 ?c5 ?_)
  case c3 => rw [txt_size]; unfold maxLen; omega
  case c4 => rw [txt_size]; omega
  case c5 => have := hb1.size; omega
  intro v' w2 hown' hgrow hn'
  have hlt : b < w1.heap.size := by
    rcases Nat.lt_or_ge b w1.heap.size with h' | h'
    · exact h'
    · simp [Array.getElem?_eq_none h'] at hbk
  have hb2 : w2.heap[b]? = some (.cells #[.pointer (some ⟨b, 0, none⟩), v] 109 (0, 0)) := by
    rw [hgrow.block b hlt (fun e => hne e.symm)]
    exact hbk
  have d0 : w2.cell? ⟨b, 0, none⟩ = some (.pointer (some ⟨b, 0, none⟩)) := by rw [Lib.cell_of_heap hb2]; rfl
  have d1 : w2.cell? ⟨b, 1, none⟩ = some v := by rw [Lib.cell_of_heap hb2]; rfl
  have f1 : w2.frozen? ⟨b, 1, none⟩ = false := Lib.frozen_of_heap hb2 1
  rw [strCells_append, txt_size, ← List.length_append] at hown'
  have hnil' : l ++ m = [] → v' = .slice none 0 0 := by
    intro e
    obtain ⟨e1, e2⟩ := List.append_eq_nil_iff.1 e
    exact hn'.2 ⟨hnil e1, by rw [e2]; rfl⟩
  have hne' := Lib.ownBlock_ne hown' hb2 (by decide)
  have Hnil := veil hnil'; have Hne := veil hne'
  clear hnil' hne' hnil hn' hne
  have hfin : Bld B b (l ++ m) (w2.setCell ⟨b, 1, none⟩ v') := by
    refine ⟨_, v', .inr rfl, hB, ?_, ?_, Hne.out, Hnil.out⟩
    · simp [World.setCell, Array.getElem?_modify, hb2]
    · obtain ⟨h1, h2⟩ := hown'
      refine ⟨h1, ?_⟩
      rcases h2 with h2 | ⟨g, cap, cur, hv, hg, hh2, r⟩
      · exact .inl h2
      · refine .inr ⟨g, cap, cur, hv, hg, ?_, r⟩
        rw [Below.heap_setCell _ _ _ _ (by rintro rfl; exact Hne.out (by rw [hv]; rfl))]
        exact hh2
  have hbf : Below B w (w2.setCell ⟨b, 1, none⟩ v') := (hb1.grown hgrow (by have := hb1.size; omega) (fun k hk => (hown.lt k hk).1)).setCell (p := ⟨b, 1, none⟩) hB _
  obtain ⟨ao, n', cap, rfl⟩ : ∃ ao n' cap, v' = .slice ao n' cap := by
    rcases hown'.2 with ⟨hv, _⟩ | ⟨g, cap, cur, hv, _⟩
    · exact ⟨_, _, _, hv⟩
    · exact ⟨_, _, _, hv⟩
  go_wp2
  go_ret2
  exact ⟨rfl, hfin, hbf⟩

set_option maxHeartbeats 2000000 in
theorem string_any (B b : Nat) (l : List Bool) (w : World) (h : Bld B b l w) :
    Calls Tryz.prog 56 #[.pointer (some ⟨b, 0, none⟩)] w fun e w' => e = .returned (.string (txt l)) ∧ Below B w w' := by
  obtain ⟨p, v, hp, hB, hbk, hown, hne, hnil⟩ := h
  by_cases h0 : l = []
  · obtain rfl := hnil h0
    subst h0
    have hUS := fun (W : World) (q : Option Addr) => Lib.run_unsafeString_none (P := Tryz.prog) W 140 3 9 q
    have c1 : w.drew.cell? ⟨b, 1, none⟩ = some (.slice none 0 0) := by
      have : w.drew.heap[b]? = some (.cells #[p, .slice none 0 0] 109 (0, 0)) := hbk
      rw [Lib.cell_of_heap this]; rfl
    have hSD : (Builtin.unsafeSliceData_ #[28] 140 #[.slice none 0 0]).run Tryz.prog w.drew = .ok (.pointer none) w.drew := rfl
    go_enter Tryz.func56, Tryz.ntmps56
    go_wp2
    go_region
    all_goals (go_wp2; go_ret; exact ⟨rfl, Below.drew (Below.refl B w)⟩)
  · have hl0 : l.length ≠ 0 := by simpa using h0
    obtain ⟨g, cap, cur, rfl, hbg, hg, hnc, hcm, hcs, htake⟩ : ∃ g cap cur, v = .slice (some ⟨g, 0, none⟩) l.length cap ∧ B ≤ g ∧ w.heap[g]? = some (.cells cur 5 (0, 0)) ∧ l.length ≤ cap ∧ cap ≤ maxLen ∧ cur.size = cap * 1 ∧ cur.toList.take (l.length * 1) = Lib.strCells (txt l) := by
      rcases hown.2 with ⟨_, hz⟩ | ⟨g, cap, cur, hv, r⟩
      · exact absurd hz hl0
      · exact ⟨g, cap, cur, hv, r⟩
    have c1 : w.drew.cell? ⟨b, 1, none⟩ = some (.slice (some ⟨g, 0, none⟩) l.length cap) := by
      have : w.drew.heap[b]? = some (.cells #[p, .slice (some ⟨g, 0, none⟩) l.length cap] 109 (0, 0)) := hbk
      rw [Lib.cell_of_heap this]; rfl
    have hSD : (Builtin.unsafeSliceData_ #[28] 140 #[.slice (some ⟨g, 0, none⟩) l.length cap]).run Tryz.prog w.drew = .ok (.pointer (some ⟨g, 0, none⟩)) w.drew :=
      Lib.run_unsafeSliceData_row _ _ _ _ _ _ (by omega)
    have hdl : (dig l).length = l.length := by simp [dig]
    have hUS : (Builtin.unsafeString_ #[140, 3] 9 #[.pointer (some ⟨g, 0, none⟩), .int .i64 l.length]).run Tryz.prog w.drew = .ok (.string (txt l)) (w.drew.freeze ⟨g, 0, none⟩ l.length) := by
      have hr := Lib.run_unsafeString_row (P := Tryz.prog) w.drew 140 3 9 5 Tryz.underlying140 (by kernel_rfl) g cur.size (by have hg' : w.drew.heap[g]? = some (.cells cur 5 (0, 0)) := hg; simp [World.shape?, hg']) (dig l) (by simpa [dig] using h0) (by omega) (by unfold maxLen at hcm; omega) (by
        intro j x hx
        exact hown.cells (g := g) rfl j (.int .u8 x.toNat) (by simp [Lib.strCells, txt, hx]))
      rw [hdl] at hr
      exact hr
    clear htake hcs
    go_enter Tryz.func56, Tryz.ntmps56
    go_wp2
    go_region
    all_goals (go_wp2; go_ret; exact ⟨rfl, Lib.below_freeze (Below.drew (Below.refl B w)) (p := ⟨g, 0, none⟩) hbg _⟩)
end Go.Proofs.YtddkhkpdbjjboaaGreat

/- The reference's digitsOf. -/
namespace Go.Proofs.YtddkhkpdbjjboaaGreat
open Go.RowKit
set_option linter.unusedVariables false
set_option linter.unusedSimpArgs false
set_option maxRecDepth 100000

set_option maxHeartbeats 1000000 in
theorem digitsOf_any (A : Option Addr) (c G : Nat) (bs : List Int) (w : World) (hb : Seen w G A (ints .u8 bs)) (hby : Bytes bs) (hG : G ≤ w.heap.size) (hl : bs.length ≤ 1048576) :
    Calls Tryz.prog 33 #[.slice A bs.length c] w fun e w' => e = .returned (.string (txt (unpack bs))) ∧ Below w.heap.size w w' := by
  go_enter Tryz.func33, Tryz.ntmps33
  go_wp2_with fail
  go_loopg [8] bs.length (fun gk i wr => ∃ k : Nat, gk = bs.length - k ∧ k ≤ bs.length ∧ i = .int .i64 k ∧ Bld w.heap.size w.heap.size (unpack (bs.take k)) wr ∧ Below w.heap.size w wr)
  case atStart => exact ⟨0, rfl, Nat.zero_le _, rfl, bld_new w, below1 _ _⟩
  case round =>
    obtain ⟨k, rfl, hk, rfl, hI, hbw⟩ := hrel
    have hz := hbw.size
    by_cases hlt : k < bs.length
    · obtain ⟨g, o, x, rfl, hg, hx, h1⟩ := hb.int hlt
      have hxb := hby x (List.mem_of_getElem? hx)
      have Hx := veil hx; clear hx
      rw [← hbw.cell (by simp; omega)] at h1
      obtain ⟨X, rfl⟩ := Int.eq_ofNat_of_zero_le hxb.1
      have hX : X ≤ 255 := by omega
      clear hxb
      go_wp2_with (first
        | (go_at_call 55; refine (binary_any 8 X _ (by omega) (by omega)).mono ?_; rintro e w1 ⟨rfl, rfl⟩)
        | (go_at_call 54; refine (writeString_any w.heap.size w.heap.size (unpack (bs.take k)) (bitsN 8 X) _ hI (by rw [bitsN_length, unpack_length]; simp; omega) hz).mono ?_; rintro e w2 ⟨rfl, hI2, hb2⟩))
      have hfin : Bld w.heap.size w.heap.size (unpack (bs.take (k + 1))) w2 := by rw [take_snoc Hx.out, unpack_snoc]; exact hI2
      clear hI hI2
      go_roundg (bs.length - (k + 1))
      case rel => exact ⟨k + 1, rfl, by omega, by go_num, hfin, hbw.trans hb2⟩
      case measure => omega
    · obtain rfl : k = bs.length := by omega
      rw [List.take_length] at hI
      go_wp2_with fail
      refine (string_any w.heap.size w.heap.size _ _ hI).mono ?_
      rintro e w1 ⟨rfl, hb1⟩
      go_wp2
      go_ret
      exact ⟨rfl, hbw.trans hb1⟩
end Go.Proofs.YtddkhkpdbjjboaaGreat

/- The reference's TableDecode: the same contract as Decode's. -/
namespace Go.Proofs.YtddkhkpdbjjboaaGreat
open Go.RowKit
set_option linter.unusedVariables false
set_option linter.unusedSimpArgs false
set_option maxRecDepth 100000

theorem digB_inj {a b : Bool} (h : digB a = digB b) : a = b := by cases a <;> cases b <;> first | rfl | (exact absurd h (by decide))
theorem dig_inj : ∀ {a b : List Bool}, dig a = dig b → a = b
  | [], [], _ => rfl
  | [], y :: b, h => by simp [dig] at h
  | x :: a, [], h => by simp [dig] at h
  | x :: a, y :: b, h => by
    simp only [dig, List.map_cons, List.cons.injEq] at h
    rw [digB_inj h.1, dig_inj (a := a) (b := b) h.2]
theorem txt_toList (a : List Bool) : (txt a).toList = dig a := by rw [ByteArray.toList_eq]; simp [txt]
theorem txt_beq (a b : List Bool) : ((txt a).toList == (txt b).toList) = decide (a = b) := by
  rw [txt_toList, txt_toList, Bool.eq_iff_iff, beq_iff_eq, decide_eq_true_iff]
  exact ⟨dig_inj, fun h => by rw [h]⟩

set_option maxHeartbeats 1000000 in
theorem hasPrefix0 (b p : List Bool) (w : World) (hb : b.length ≤ 140737488355328) (hp : p.length ≤ 140737488355328) : Calls Tryz.prog 84 #[.string (txt b), .string (txt p)] w fun e w' => e = .returned (.bool (p.isPrefixOf b)) ∧ w = w' := by
  have hs1 : (txt b).size = b.length := txt_size b
  have hs2 : (txt p).size = p.length := txt_size p
  by_cases hle : p.length ≤ b.length
  · have hr : p.isPrefixOf b = decide (b.take p.length = p) := by
      rw [Bool.eq_iff_iff, List.isPrefixOf_iff_prefix, List.prefix_iff_eq_take, decide_eq_true_iff]
      exact ⟨fun h => h.symm, fun h => h.symm⟩
    have Hr := veil hr
    have hle' : (p.length : Int) ≤ (b.length : Int) := by omega
    have hle2 : decide (p.length ≤ b.length) = true := decide_eq_true hle
    have hcut : ∀ w, (Instr.slice 9 (.string (txt b)) none (some (.int .i64 (p.length : Int))) none).run Tryz.prog w = .ok (.string (txt (b.take p.length))) w := by
      intro w
      rw [run_slice_string_to_if w 9 (txt b) .i64 _ Tryz.underlying9, if_pos ⟨by omega, by rw [hs1]; exact hle'⟩, Int.toNat_natCast, txt_extract]
      simp
    clear hr
    go_enter Tryz.func84, Tryz.ntmps84
    go_wp2
    go_ret
    refine ⟨ret_bool ?_, rfl⟩
    rw [Hr.out, ← txt_beq]
  · have hr : p.isPrefixOf b = false := by
      cases h : p.isPrefixOf b with
      | false => rfl
      | true => exact absurd (List.isPrefixOf_iff_prefix.1 h).length_le hle
    have Hr := veil hr
    have hle' : ¬ (p.length : Int) ≤ (b.length : Int) := by omega
    clear hr
    go_enter Tryz.func84, Tryz.ntmps84
    go_wp2
    go_ret
    exact ⟨ret_bool (by rw [Hr.out]), rfl⟩
theorem hasPrefix_any (b p : List Bool) (w : World) (hb : b.length ≤ 140737488355328) (hp : p.length ≤ 140737488355328) : Calls Tryz.prog 62 #[.string (txt b), .string (txt p)] w fun e w' => e = .returned (.bool (p.isPrefixOf b)) ∧ w = w' := by
  have hh := veil (hasPrefix0 b p w hb hp)
  go_enter Tryz.func62, Tryz.ntmps62
  go_wp2_with fail
  refine hh.out.mono ?_
  rintro e w1 ⟨rfl, rfl⟩
  go_wp2
  go_ret
  exact ⟨rfl, rfl⟩

theorem find1_hit {ws : List (Int × Nat × Nat)} {b : List Bool} {k : Nat} {t : Int × Nat × Nat} (h : ∀ u ∈ ws.take k, begins u b = false) (ht : ws[k]? = some t) (hb : begins t b = true) : find1 ws b = some (t.1, t.2.1) := by
  have e : ws = ws.take k ++ t :: ws.drop (k + 1) := by
    rw [← List.singleton_append, ← List.append_assoc, ← take_snoc ht, List.take_append_drop]
  unfold find1
  rw [e, List.find?_append, List.find?_eq_none.2 (fun u hu => by rw [h u hu]; simp)]
  simp [List.find?_cons, hb]
theorem find1_miss {ws : List (Int × Nat × Nat)} {b : List Bool} (h : ∀ u ∈ ws, begins u b = false) : find1 ws b = none := by
  unfold find1
  rw [List.find?_eq_none.2 (fun u hu => by rw [h u hu]; simp)]
  rfl
/-- What is left behind the word. -/
def nextR (ws : List (Int × Nat × Nat)) (b : List Bool) : List Bool := if (find1 ws b).isSome = true then b.drop (nextL ws b) else []
theorem mkWords_get {syms : List Int} {l : List (Nat × Nat)} {k : Nat} {x : Int} {p : Nat × Nat} (hx : syms[k]? = some x) (hp : l[k]? = some p) : (mkWords syms l)[k]? = some (x, p.1, p.2) := by
  unfold mkWords; rw [List.getElem?_zipWith, hx, hp]

set_option maxRecDepth 100000 in
set_option maxHeartbeats 2000000 in
theorem symOf_any (cs syms : List Int) (l : List (Nat × Nat)) (A : Option Addr) (c G : Nat) (b : List Bool) (w : World) (hcs : cs.length = 16) (hf : Fine cs syms l) (hs : Seen w G A (ints .i64 syms)) (hG : G ≤ w.heap.size) (hbl : b.length ≤ 140737488355328) :
    Calls Tryz.prog 36 #[tabV cs A syms.length c, .string (txt b)] w fun e w' => e = .returned (.tuple #[.int .i64 (nextS (mkWords syms l) b), .string (txt (nextR (mkWords syms l) b)), .int .i64 (nextE (mkWords syms l) b)]) ∧ Below w.heap.size w w' := by
  have h16 : (tabCells cs A syms.length c)[16]? = some (.slice A syms.length c) := tabCells_last hcs
  have hlen17 : (tabCells cs A syms.length c).length = 17 := tabCells_length hcs
  have h256 := hf.good.le
  have hll : l.length = syms.length := (codes_length hf.code).trans hf.good.sum
  have hwo := fun w1 => refWordsOf_any (nats cs) A syms.length c w1 (by rw [nats_length]; exact hcs) (by rw [hf.good.sum]; exact hf.good.le)
  rw [natI_nats hf.good.1, hf.code] at hwo
  have hsm : ∀ p ∈ l, p.1 ≤ 16 := fun p hp => ((hf.kr hcs).ge p hp).2.1
  have Hll := veil hll; have Hsm := veil hsm
  clear hf hll hcs hsm
  obtain ⟨ys, hys⟩ : ∃ ys, ys = tabCells cs A syms.length c := ⟨_, rfl⟩
  have Hr := veil (range_new w ys 25)
  unfold tabV at hwo ⊢
  rw [← hys] at hlen17 hwo h16 ⊢
  clear hys
  have Hwo := veil hwo; clear hwo
  have H17 := veil hlen17; clear hlen17
  go_enter Tryz.func36, Tryz.ntmps36
  go_wp2_with (first
    | (refine wpList_load_mid rfl 25 (.tmp 2) rfl w.heap.size 0 rfl ys _ Hr.out Tryz.underlying25 rfl (by rw [H17.out]; exact info_tab) ?_)
    | fail)
  refine (Hwo.out _).mono ?_
  rintro e w1 ⟨v, rfl, HS, hb1⟩
  have c16 : w1.cell? ⟨w.heap.size, 16, none⟩ = some (.slice A syms.length c) := by rw [hb1.cell (by simp), World.cell?_alloc_at _ _ _ _ rfl]; simpa using h16
  have hbel1 : Below w.heap.size w w1 := (below1 _ _).trans (hb1.mono (by simp))
  have hz1 := hb1.size
  simp at hz1
  obtain ⟨A5, c5, e5, hs5, _, _⟩ := HS.seen (List.mem_cons_self ..)
  simp only [strRow, Option.getD_some, Hll.out] at e5 hs5
  subst e5
  clear Hr hb1 Hwo h16 HS
  go_wp2_with fail
  go_loopg [9, 10, 18] syms.length (fun gk i0 s0 i wr => ∃ k : Nat, gk = syms.length - k ∧ k ≤ syms.length ∧ i = .int .i64 k ∧ Hid (∀ u ∈ (mkWords syms l).take k, begins u b = false) ∧ w1 = wr)
  case atStart => exact ⟨0, rfl, Nat.zero_le _, rfl, veil (by simp), rfl⟩
  case round =>
    obtain ⟨k, rfl, hk, rfl, HN, rfl⟩ := hrel
    by_cases hlt : k < syms.length
    · obtain ⟨p, hp⟩ := some_at (xs := l) (j := k) (by rw [Hll.out]; exact hlt)
      obtain ⟨g5, o5, rfl, hg5, h5⟩ := hs5.cell (strs_at hp)
      obtain ⟨g, o, y, rfl, hg, hy, h1⟩ := hs.int hlt
      rw [← hbel1.cell (by simp; omega)] at h1
      have hp16 := Hsm.out p (List.mem_of_getElem? hp)
      have hget := mkWords_get hy hp
      have hhp := hasPrefix_any b (bitsN p.1 p.2) w1 hbl (by rw [bitsN_length]; omega)
      have hsz : (txt (bitsN p.1 p.2)).size = p.1 := by rw [txt_size, bitsN_length]
      have hszb : (txt b).size = b.length := txt_size b
      have hlt' : (k : Int) < (syms.length : Int) := by omega
      have Hget := veil hget
      clear hget hp hy
      cases hbg : (bitsN p.1 p.2).isPrefixOf b with
      | true =>
        rw [hbg] at hhp
        have hbl2 : p.1 ≤ b.length := by have := (List.isPrefixOf_iff_prefix.1 hbg).length_le; rw [bitsN_length] at this; exact this
        have hf1 := find1_hit HN.out Hget.out (show begins (y, p.1, p.2) b = true from hbg)
        have h11 : nextS (mkWords syms l) b = y := by unfold nextS; rw [hf1]; rfl
        have h12 : nextR (mkWords syms l) b = b.drop p.1 := by unfold nextR nextL; rw [hf1]; rfl
        have h13 : nextE (mkWords syms l) b = 0 := by unfold nextE; rw [hf1]; rfl
        have H1 := veil h11; have H2 := veil h12; have H3 := veil h13; have Hhp := veil hhp
        have hcut : ∀ w, (Instr.slice 9 (.string (txt b)) (some (.int .i64 (p.1 : Int))) none none).run Tryz.prog w = .ok (.string (txt (b.drop p.1))) w := by
          intro w
          rw [run_slice_string_from_if w 9 (txt b) .i64 _ Tryz.underlying9, if_pos ⟨by omega, by rw [hszb]; omega⟩, Int.toNat_natCast, hszb, txt_extract]
          rw [List.take_of_length_le (by simp)]
        clear h11 h12 h13 hf1 hbg hhp
        generalize txt (bitsN p.1 p.2) = tx at *
        obtain ⟨tr, htr⟩ : ∃ tr, tr = txt (b.drop p.1) := ⟨_, rfl⟩
        rw [← htr] at hcut
        have Htr := veil htr; clear htr
        go_wp2_with fail
        refine Hhp.out.mono ?_
        rintro e w3 ⟨rfl, rfl⟩
        go_wp2_with fail
        go_quiet (fail)
        go_wp2
        go_ret3
        exact ⟨ret_three (by rw [H1.out]; rfl) (by rw [H2.out, ← Htr.out]; rfl) (by rw [H3.out]; rfl), hbel1.drewN _⟩
      | false =>
        rw [hbg] at hhp
        have Hhp := veil hhp; have Hbg := veil hbg
        clear hhp hbg
        generalize txt (bitsN p.1 p.2) = tx at *
        go_wp2_with fail
        refine Hhp.out.mono ?_
        rintro e w3 ⟨rfl, rfl⟩
        go_wp2
        go_roundg (syms.length - (k + 1))
        case rel => exact ⟨k + 1, rfl, by omega, by go_num, veil (mem_snoc Hget.out HN.out Hbg.out), rfl⟩
        case measure => omega
    · obtain rfl : k = syms.length := by omega
      have hall : ∀ u ∈ mkWords syms l, begins u b = false := by
        have := HN.out
        rw [List.take_of_length_le (by rw [mkWords_length _ _ (by rw [Hll.out]; omega), Hll.out]; omega)] at this
        exact this
      have hf1 := find1_miss hall
      have h11 : nextS (mkWords syms l) b = 0 := by unfold nextS; rw [hf1]; rfl
      have h12 : nextR (mkWords syms l) b = [] := by unfold nextR; rw [hf1]; rfl
      have h13 : nextE (mkWords syms l) b = if b.length < 16 then 3 else 4 := by unfold nextE; rw [hf1]; rfl
      have H1 := veil h11; have H2 := veil h12
      have hszb : (txt b).size = b.length := txt_size b
      clear h11 h12 hf1 hall
      by_cases h16 : b.length < 16
      · rw [if_pos h16] at h13
        have H3 := veil h13
        clear h13
        have h16' : (b.length : Int) < 16 := by omega
        go_wp2
        go_ret3
        exact ⟨ret_three (by rw [H1.out]; rfl) (by rw [H2.out]; rfl) (by rw [H3.out]; rfl), hbel1⟩
      · rw [if_neg h16] at h13
        have H3 := veil h13
        clear h13
        have h16' : ¬ (b.length : Int) < 16 := by omega
        go_wp2
        go_ret3
        exact ⟨ret_three (by rw [H1.out]; rfl) (by rw [H2.out]; rfl) (by rw [H3.out]; rfl), hbel1⟩

theorem nextR_hit {ws : List (Int × Nat × Nat)} {b : List Bool} (h : nextE ws b = 0) : nextR ws b = b.drop (nextL ws b) := by
  unfold nextE at h
  split at h
  · rename_i h1; unfold nextR; rw [if_pos h1]
  · split at h <;> cases h

end Go.Proofs.YtddkhkpdbjjboaaGreat
