/- The reference's Split: the same contract, its pieces lying in what came in. -/
import Derived.Test.YtnddlehhgholhaaStuffSplit
import Derived.Test.YtnddlehhgholhaaReg
namespace Go.Proofs.Ytnddlehhgholhaa
open Go.RowKit
set_option linter.unusedVariables false
set_option linter.unusedSimpArgs false

theorem run_cut (A : Option Addr) (n c f h : Nat) (h1 : f ≤ h) (h2 : h ≤ c) (u : World) : (Instr.sliceAt 22 (.slice A n c) (some (.int .i64 (f : Int))) (some (.int .i64 (h : Int))) none).run Try.prog u = .ok (cutV A f h c) u := by
  have he : Try.prog.underlying 22 = some (.slice (Try.prog.elem 22)) := by kernel_rfl
  have hz : (sizeOf (Try.prog.elem 22)).run Try.prog u = .ok 1 u := by kernel_rfl
  rw [run_sliceAt_slice _ _ _ _ _ _ he, run_slice_lh _ _ _ _ _ he _ _ _ _ (by omega) (by omega) (by omega), hz]
  simp [Result.andThen, sliced, cutV]
theorem run_cut_end (A : Option Addr) (n c f : Nat) (h1 : f ≤ n) (u : World) : (Instr.sliceAt 22 (.slice A n c) (some (.int .i64 (f : Int))) none none).run Try.prog u = .ok (cutV A f n c) u := by
  have he : Try.prog.underlying 22 = some (.slice (Try.prog.elem 22)) := by kernel_rfl
  have hz : (sizeOf (Try.prog.elem 22)).run Try.prog u = .ok 1 u := by kernel_rfl
  rw [run_sliceAt_slice _ _ _ _ _ _ he, run_slice_l _ _ _ _ _ he _ _ (by omega) (by omega), hz]
  simp [Result.andThen, sliced, cutV]
theorem cut_snoc {bs : List Int} {f k : Nat} {x : Int} (h : bs[k]? = some x) (hf : f ≤ k) : (bs.drop f).take (k + 1 - f) = (bs.drop f).take (k - f) ++ [x] := by
  rw [show k + 1 - f = k - f + 1 by omega]
  apply take_snoc
  rw [List.getElem?_drop, show f + (k - f) = k by omega]
  exact h
theorem cut_two {bs : List Int} {f k : Nat} {x y : Int} (h : bs[k]? = some x) (h2 : bs[k + 1]? = some y) (hf : f ≤ k) : (bs.drop f).take (k + 2 - f) = (bs.drop f).take (k - f) ++ [x, y] := by
  rw [show k + 2 - f = k + 1 + 1 - f by omega, cut_snoc h2 (by omega), cut_snoc h hf]; simp

set_option maxHeartbeats 4000000 in
theorem refSplit_any (A : Option Addr) (c G : Nat) (bs : List Int) (w : World) (hb : Seen w G A (ints .u8 bs)) (hG : G ≤ w.heap.size) (hl : bs.length ≤ 1099511627776) (hlc : bs.length ≤ c) (hby : ∀ x ∈ bs, 0 ≤ x ∧ x ≤ 255) :
    Calls Try.prog 16 #[.slice A bs.length c] w fun e w' => ∃ vs v m, e = .returned (.tuple #[v, m, .int .i64 (splitErr bs)]) ∧ SeenRows w' G .u8 vs (splitP bs) ∧
      Owns w.heap.size [pileRow v vs, numRow m (splitM bs)] w' ∧ Below w.heap.size w w' := by
  have Hby := veil hby; clear hby
  go_enter Try.func16, Try.ntmps16
  go_wp2_with fail
  go_loopg [5, 6, 7, 8] bs.length (fun gk v m f i wr => ∃ (k fr : Nat) (ps : List (List Int)) (ms : List Int) (vs : List Value), gk = bs.length - k ∧ k ≤ bs.length ∧ fr ≤ k ∧ i = .int .i64 k ∧ f = .int .i64 fr ∧ Hid (SInv bs k ps ms ((bs.drop fr).take (k - fr))) ∧ vs.length ≤ k ∧ ms.length ≤ k ∧
    SeenRows wr G .u8 vs ps ∧ Owns w.heap.size [pileRow v vs, numRow m ms] wr ∧ Below w.heap.size w wr)
  case atStart => exact ⟨0, 0, [], [], [], rfl, Nat.zero_le _, Nat.le_refl _, rfl, rfl, veil (SInv.start bs), Nat.zero_le _, Nat.zero_le _, SeenRows.nil _ _ _, ((Owns.start w).fresh _ _).fresh _ _, Below.refl _ _⟩
  case round =>
    obtain ⟨k, fr, ps, ms, vs, rfl, hk, hfk, rfl, rfl, HI, hvk, hmk, hsr, HO, hbel⟩ := hrel
    have hB := hbel.size
    by_cases hlt : k < bs.length
    · obtain ⟨g, o, x, rfl, hg, hx, h1⟩ := hb.int hlt
      have Hx := veil hx; clear hx
      rw [← hbel.cell (by simp; omega)] at h1
      by_cases h255 : x = 255
      · subst h255
        by_cases hlast : k + 1 = bs.length
        · have hpn := HI.out.last Hx.out hlast
          obtain ⟨hp1, hp2, hp3⟩ := split_none hpn
          have Hp := veil hp1; have Hm := veil hp2; have He := veil hp3
          have hlast' : (k : Int) + 1 = (bs.length : Int) := by omega
          clear hpn hp1 hp2 hp3
          go_wp2
          go_ret3
          exact ⟨[], _, _, ret_three rfl rfl (by rw [He.out]; rfl), by rw [Hp.out]; exact SeenRows.nil _ _ _, by rw [Hm.out]; exact ((Owns.nil hbel.size).fresh _ _).fresh _ _, hbel⟩
        · obtain ⟨g2, o2, y, e2, hg2, hy, h2⟩ := hb.int (k := k + 1) (by omega)
          injection e2 with e2
          injection e2 with e3 e4
          subst e3 e4
          have hyb := Hby.out y (List.mem_of_getElem? hy)
          have Hy := veil hy; clear hy
          rw [← hbel.cell (by simp; omega)] at h2
          have hne : ¬ ((k : Int) + 1 = (bs.length : Int)) := by omega
          have hlt2 : (k : Int) + 1 < (bs.length : Int) := by omega
          by_cases hy255 : y = 255
          · subst hy255
            have hpn := HI.out.two Hx.out Hy.out
            obtain ⟨hp1, hp2, hp3⟩ := split_none hpn
            have Hp := veil hp1; have Hm := veil hp2; have He := veil hp3
            clear hpn hp1 hp2 hp3
            go_wp2
            go_ret3
            exact ⟨[], _, _, ret_three rfl rfl (by rw [He.out]; rfl), by rw [Hp.out]; exact SeenRows.nil _ _ _, by rw [Hm.out]; exact ((Owns.nil hbel.size).fresh _ _).fresh _ _, hbel⟩
          · by_cases hy0 : y = 0
            · subst hy0
              go_wp2
              go_roundg (bs.length - (k + 2))
              case rel => exact ⟨k + 2, fr, ps, ms, vs, rfl, by omega, by omega, by go_num, rfl, veil (by rw [cut_two Hx.out Hy.out hfk]; exact HI.out.pad Hx.out Hy.out), by omega, by omega, hsr, HO, hbel⟩
              case measure => omega
            · have hn1 : (y == 255) = false := by simpa using hy255
              have hn2 : (0 : Int) < y := by omega
              have HI2 := veil (HI.out.mark Hx.out Hy.out hy255 hy0)
              clear hy255 hy0
              have hcut := run_cut (some ⟨g, o, none⟩) bs.length c fr k hfk (by omega)
              obtain ⟨A', hcv, hsc⟩ := cutV_seen (hb.below hbel hG) hfk (Nat.le_of_lt hlt) (show k ≤ c by omega)
              have hcl := cutV_length (f := fr) (Nat.le_of_lt hlt)
              rw [hcv] at hcut
              clear hcv
              generalize (bs.drop fr).take (k - fr) = cur at *
              rw [← hcl] at hcut
              have hcll : cur.length ≤ maxLen := by unfold maxLen; omega
              clear hcl
              have hsr1 := hsr.snoc (c := c - fr) hsc hcll
              have hone : ∀ u ∈ [Value.slice A' cur.length (c - fr)], u.oneCell' = true := by simp [Value.oneCell']
              have hone2 : ∀ u ∈ [Value.int .i64 y], u.oneCell' = true := by simp [Value.oneCell']
              generalize c - fr = c9 at *
              go_wp2_with fail
              have hn1' : vs.length + 1 ≤ maxLen := by unfold maxLen; omega
              have hn2' : (vs.length + 1) * 24 ≤ 140737488355328 := by omega
              have hm1' : ms.length + 1 ≤ maxLen := by unfold maxLen; omega
              have hm2' : (ms.length + 1) * 8 ≤ 140737488355328 := by omega
              have hrow : ∀ g, u5.ownBlock = some g → g < wr.heap.size := fun g hg => (HO.head.lt g hg).2
              have hne5 : some g ≠ u5.ownBlock := fun e => by have := (HO.head.lt g e.symm).1; omega
              have hne6 : some g ≠ u6.ownBlock := fun e => by have := (HO.tail.head.lt g e.symm).1; omega
              have hw1 : IntKind.i64.wrap ((k : Int) + 1) = (k : Int) + 1 := by rw [IntKind.wrap_i64]; omega
              have hwy : IntKind.i64.wrap y = y := by rw [IntKind.wrap_i64]; omega
              have hw2 : (0 : Int) ≤ (k : Int) + 1 := by omega
              have hw3 : ((k : Int) + 1).toNat = k + 1 := by omega
              generalize hW : wr = W at *
              have h2' : Hid (W.cell? ⟨g, o + (k + 1), none⟩ = some (.int .u8 y)) := h2
              go_region_held3 (fun w' => w'.cell? ⟨g, o + (k + 1), none⟩ = some (.int .u8 y))
                (first
                  | go_keep
                  | (refine reg_far hgr54 hne6 ?_; assumption)
                  | (refine reg_far hgr45 hne5 ?_; assumption))
                (first
                  | (refine step_ownV _ ?a45c1 (.tmp 39) (.tmp 44) _ ?b45c1 w.heap.size 22 1 24 elem_bytes u5 vs.length vs [numRow u6 ms] ?c45c1 (HO.drew.alloc _) _ (some ⟨W.heap.size, 0, none⟩) 1 1 [Value.slice A' cur.length c9] ?d45c1 (Seen.new W.drew _ _ (W.heap.size + 2) (reg_by0 W)) rfl hone hn1' hn2' ?_
                     case b45c1 => rfl
                     case a45c1 => rfl
                     case c45c1 => rfl
                     case d45c1 => rfl
                     intro v45 w45 HO45 hgr45 hbl45)
                  | (refine step_ownV _ ?a45c2 (.tmp 39) (.tmp 44) _ ?b45c2 w.heap.size 22 1 24 elem_bytes u5 vs.length vs [numRow u6 ms] ?c45c2 ((HO.drew.alloc _).alloc _) _ (some ⟨W.heap.size, 0, none⟩) 1 1 [Value.slice A' cur.length c9] ?d45c2 (reg_new0 W _ _) rfl hone hn1' hn2' ?_
                     case b45c2 => rfl
                     case a45c2 => rfl
                     case c45c2 => rfl
                     case d45c2 => rfl
                     intro v45 w45 HO45 hgr45 hbl45)
                  | (refine step_ownV _ ?a45c4 (.tmp 39) (.tmp 44) _ ?b45c4 w.heap.size 22 1 24 elem_bytes u5 vs.length vs [numRow u6 ms] ?c45c4 ((HO.drew.alloc _).alloc _) _ (some ⟨W.heap.size + 1, 0, none⟩) 1 1 [Value.slice A' cur.length c9] ?d45c4 (reg_new1 W _ _) rfl hone hn1' hn2' ?_
                     case b45c4 => rfl
                     case a45c4 => rfl
                     case c45c4 => rfl
                     case d45c4 => rfl
                     intro v45 w45 HO45 hgr45 hbl45)
                  | (refine step_ownV _ ?a54c6 (.tmp 46) (.tmp 53) _ ?b54c6 w.heap.size 3 1 8 elem_int u6 ms.length (ints .i64 ms) [⟨22, 1, v45, vs.length + 1, vs ++ [Value.slice A' cur.length c9]⟩] ?c54c6 (HO45.swap.alloc _) _ (some ⟨w45.heap.size, 0, none⟩) 1 1 [Value.int IntKind.i64 y] ?d54c6 (Seen.new w45 _ _ (w45.heap.size + 1) (Nat.lt_succ_self _)) rfl hone2 hm1' hm2' ?_
                     case b54c6 => rfl
                     case a54c6 => rfl
                     case c54c6 => rfl
                     case d54c6 => rfl
                     intro v54 w54 HO54 hgr54 hbl54)
                  | (refine step_ownV _ ?a54c3 (.tmp 46) (.tmp 53) _ ?b54c3 w.heap.size 3 1 8 elem_int u6 ms.length (ints .i64 ms) [⟨22, 1, v45, vs.length + 1, vs ++ [Value.slice A' cur.length c9]⟩] ?c54c3 (HO45.swap) _ (some ⟨W.heap.size, 0, none⟩) 1 1 [Value.int IntKind.i64 y] ?d54c3 (reg_grown (reg_new0 W _ _) hgr45 hrow (reg_lt0 W _ _)) rfl hone2 hm1' hm2' ?_
                     case b54c3 => rfl
                     case a54c3 => rfl
                     case c54c3 => rfl
                     case d54c3 => rfl
                     intro v54 w54 HO54 hgr54 hbl54)
                  | (refine step_ownV _ ?a54c5 (.tmp 46) (.tmp 53) _ ?b54c5 w.heap.size 3 1 8 elem_int u6 ms.length (ints .i64 ms) [⟨22, 1, v45, vs.length + 1, vs ++ [Value.slice A' cur.length c9]⟩] ?c54c5 (HO45.swap) _ (some ⟨W.heap.size + 1, 0, none⟩) 1 1 [Value.int IntKind.i64 y] ?d54c5 (reg_grown (reg_new1 W _ _) hgr45 (fun g hg => Nat.lt_succ_of_lt (hrow g hg)) (reg_lt1 W _ _)) rfl hone2 hm1' hm2' ?_
                     case b54c5 => rfl
                     case a54c5 => rfl
                     case c54c5 => rfl
                     case d54c5 => rfl
                     intro v54 w54 HO54 hgr54 hbl54)
                  | fail)
              all_goals
                have hbW : Below w.heap.size W w54 := by first | exact reg_below2 hbl45 hbl54 hB | exact reg_below1 hbl45 hbl54 hB
                have hfin : Owns w.heap.size [pileRow v45 (vs ++ [Value.slice A' cur.length c9]), numRow v54 (ms ++ [y])] w54 := by
                  have h := HO54.swap
                  simpa [pileRow, numRow, intRow, ints_append, ints] using h
                have hsr2 := hsr1.below hbW hG
                have hbw2 := hbel.trans hbW
                clear hbW HO HO45 HO54 hbl45 hbl54 hgr45 hgr54 hsr1 hsr hcut h2 h1 h2'
                go_wp2
                go_roundg (bs.length - (k + 2))
                case rel => exact ⟨k + 2, k + 2, ps ++ [cur], ms ++ [y], _, rfl, by omega, by omega, by go_num, by go_num, veil (by simpa using HI2.out), by simp; omega, by simp; omega, hsr2, hfin, hbw2⟩
                case measure => omega
      · have hxb : (x != 255) = true := by simpa using h255
        have H255 := veil h255; clear h255
        go_wp2
        go_roundg (bs.length - (k + 1))
        case rel => exact ⟨k + 1, fr, ps, ms, vs, rfl, by omega, by omega, by go_num, rfl, veil (by rw [cut_snoc Hx.out hfk]; exact HI.out.other Hx.out H255.out), by omega, by omega, hsr, HO, hbel⟩
        case measure => omega
    · obtain rfl : k = bs.length := by omega
      obtain ⟨hp1, hp2, hp3⟩ := split_some HI.out.done
      have Hp := veil hp1; have Hm := veil hp2; have He := veil hp3
      clear hp1 hp2 hp3
      have hcut := run_cut_end A bs.length c fr hfk
      obtain ⟨A', hcv, hsc⟩ := cutV_seen (hb.below hbel hG) hfk (Nat.le_refl _) hlc
      have hcl := cutV_length (f := fr) (Nat.le_refl bs.length)
      rw [hcv] at hcut
      clear hcv
      generalize hcur : (bs.drop fr).take (bs.length - fr) = cur at *
      have Hcur := veil hcur; clear hcur
      rw [← hcl] at hcut
      have hcll : cur.length ≤ maxLen := by unfold maxLen; omega
      clear hcl
      go_wp2_with (at_builtin; go_loud (refine wpList_ownN _ rfl (.tmp 59) (.tmp 63) _ rfl w.heap.size 22 24 elem_bytes u5 vs.length vs [numRow u6 ms] rfl HO [.slice A' cur.length (c - fr)] rfl (by simp [Value.oneCell']) (by unfold maxLen; simp; omega) (by simp; omega) ?_); intro v1 w1 HO1 hb1 hz1)
      go_ret3
      have hsr1 := (hsr.snoc (c := c - fr) hsc hcll).below hb1 hG
      exact ⟨vs ++ [.slice A' cur.length (c - fr)], _, _, ret_three rfl rfl (by rw [He.out]; rfl), by rw [Hp.out]; exact hsr1, by rw [Hm.out]; rw [pile_snoc] at HO1; exact HO1, hbel.trans hb1⟩
end Go.Proofs.Ytnddlehhgholhaa
