/- best.pairs: its contract. -/
import Derived.Test.YthelblkpfkngmaaBunMem
import Derived.Test.YthelblkpfkngmaaReg
import Derived.StillTailTactics
import Derived.Deep.DeepCutAuto
import Derived.BigRegion
namespace Go.Proofs.Ythelblkpfkngmaa
open Go.RowKit
set_option linter.unusedVariables false
set_option linter.unusedSimpArgs false

/-- The pairs that have been made. -/
def pairsTo (l : List Bun) (k : Nat) : List Bun := (pairsOf l).take k
def hRow (v : Value) (xs : List Hd) : Row := ⟨68, 2, v, xs.length, hCells xs⟩
def symRow (x : Hd) (s : List Int) : Row := intRow 3 .i64 (.slice x.2.1 x.2.2.1 x.2.2.2) s
/-- Each of these bundles has a row of its own. -/
def Rowed (rs : List Row) (l : List Bun) (xs : List Hd) : Prop := l.length = xs.length ∧ ∀ (j : Nat) (b : Bun) (x : Hd), l[j]? = some b → xs[j]? = some x → x.1 = (b.1 : Int) ∧ x.2.2.1 = b.2.length ∧ symRow x b.2 ∈ rs
theorem Rowed.buns {rs : List Row} {l : List Bun} {xs : List Hd} (h : Rowed rs l xs) {B : Nat} {w : World} (HO : Owns B rs w) : BunsAre w w.heap.size l xs := by
  refine ⟨h.1, fun j b x hb hx => ?_⟩
  obtain ⟨h1, h2, h3⟩ := h.2 j b x hb hx
  obtain ⟨A, c, e, hs, _, _⟩ := HO.seen h3
  simp only [symRow, intRow, Value.slice.injEq] at e hs
  obtain ⟨e1, e2, e3⟩ := e
  exact ⟨h1, h2, by rw [e1]; exact hs⟩
theorem pairsOf_at (l : List Bun) : ∀ (k : Nat) (a b : Bun), l[2 * k]? = some a → l[2 * k + 1]? = some b → (pairsOf l)[k]? = some (mergeB a b) := by
  induction l using two_ind with
  | h0 => intro k a b h; simp at h
  | h1 x => intro k a b h1 h2; simp at h2
  | h2 x y l ih =>
    intro k a b h1 h2
    cases k with
    | zero => simp at h1 h2; subst h1 h2; rfl
    | succ k =>
      rw [show 2 * (k + 1) = 2 * k + 1 + 1 by omega] at h1 h2
      simp only [List.getElem?_cons_succ] at h1 h2
      exact ih k a b h1 h2

theorem Rowed.snoc {rs : List Row} {l : List Bun} {xs : List Hd} (h : Rowed rs l xs) (x : Hd) (b : Bun) (h1 : x.1 = (b.1 : Int)) (h2 : x.2.2.1 = b.2.length) : Rowed (symRow x b.2 :: rs) (l ++ [b]) (xs ++ [x]) := by
  refine ⟨by simp [h.1], fun j b' x' hb hx => ?_⟩
  by_cases hj : j < l.length
  · rw [List.getElem?_append_left hj] at hb
    rw [List.getElem?_append_left (by rw [← h.1]; exact hj)] at hx
    obtain ⟨g1, g2, g3⟩ := h.2 j b' x' hb hx
    exact ⟨g1, g2, List.mem_cons_of_mem _ g3⟩
  · rw [List.getElem?_append_right (by omega)] at hb
    rw [List.getElem?_append_right (by rw [← h.1]; omega), ← h.1] at hx
    have hz : j - l.length = 0 := by
      have := (List.getElem?_eq_some_iff.1 hb).1
      simp at this; omega
    rw [hz] at hb hx
    simp at hb hx
    subst hb hx
    exact ⟨h1, h2, List.mem_cons_self⟩
theorem pairsTo_succ {l : List Bun} {k : Nat} {a b : Bun} (ha : l[2 * k]? = some a) (hb : l[2 * k + 1]? = some b) : pairsTo l (k + 1) = pairsTo l k ++ [mergeB a b] := take_snoc (pairsOf_at l k a b ha hb)
theorem pairsTo_all {l : List Bun} {k : Nat} (h : l.length ≤ 2 * k + 1) : pairsTo l k = pairsOf l := by
  unfold pairsTo
  rw [List.take_of_length_le]
  rw [pairsOf_length]; omega
/-- slices.Concat of two rows of numbers. -/
theorem concat2_any (b c c1 c2 : Nat) (A1 A2 : Option Addr) (sa sb : List Int) (w : World) (hb : b < w.heap.size) (h0 : w.cell? ⟨b, 0, none⟩ = some (.slice A1 sa.length c1)) (h1 : w.cell? ⟨b, 1, none⟩ = some (.slice A2 sb.length c2))
    (hs1 : Seen w w.heap.size A1 (ints .i64 sa)) (hs2 : Seen w w.heap.size A2 (ints .i64 sb)) (hn : sa.length + sb.length ≤ 1048576) :
    Calls Try.prog 51 #[.slice (some ⟨b, 0, none⟩) 2 c] w fun e w' => ∃ Av cv, e = .returned (.slice Av (sa.length + sb.length) cv) ∧ Owns w.heap.size [intRow 3 .i64 (.slice Av (sa.length + sb.length) cv) (sa ++ sb)] w' ∧ Below w.heap.size w w' := by
  refine (concatN_any b c sa.length sb.length c1 c2 A1 A2 (ints .i64 sa) (ints .i64 sb) w hb h0 h1 hs1 hs2 (by rw [ints_length]; omega) (by rw [ints_length]; omega) ints_one ints_one hn).mono ?_
  rintro e w' ⟨v, rfl, HO, hb⟩
  rw [intRow_append] at HO
  obtain ⟨A, c, e, _, _, _⟩ := HO.seen (List.mem_singleton.2 rfl)
  simp only [intRow, List.length_append] at e
  subst e
  exact ⟨A, c, rfl, HO, hb⟩
theorem hRow_snoc (v : Value) (ys : List Hd) (x : Hd) : (⟨68, 2, v, ys.length + 1, hCells ys ++ [.int .i64 x.1, .slice x.2.1 x.2.2.1 x.2.2.2]⟩ : Row) = hRow v (ys ++ [x]) := by
  simp [hRow, hCells_append]; rfl

set_option maxHeartbeats 4000000 in
set_option maxRecDepth 100000 in
theorem pairs_any (A : Option Addr) (c G : Nat) (l : List Bun) (xs : List Hd) (w : World) (hs : Seen w G A (hCells xs)) (hB : BunsAre w G l xs) (hG : G ≤ w.heap.size) (hl : l.length ≤ 1024) (hc : ∀ b ∈ l, b.1 ≤ 1099511627776) (hsy : ∀ b ∈ l, b.2.length ≤ 131072) :
    Calls Try.prog 40 #[.slice A l.length c] w fun e w' => ∃ ys rs v, e = .returned v ∧ Owns w.heap.size (hRow v ys :: rs) w' ∧ Rowed rs (pairsOf l) ys ∧ Below w.heap.size w w' := by
  have HB := veil hB; have Hc := veil hc; have Hsy := veil hsy
  clear hB hc hsy
  go_enter Try.func40, Try.ntmps40
  go_wp2
  go_loopg [3, 4] l.length (fun gk v i wr => ∃ (k : Nat) (ys : List Hd) (rs : List Row), gk = l.length - 2 * k ∧ 2 * k ≤ l.length ∧ i = .int .i64 ((2 * k + 1 : Nat) : Int) ∧ Owns w.heap.size (hRow v ys :: rs) wr ∧ Hid (ys.length = k ∧ Rowed rs (pairsTo l k) ys) ∧ Below w.heap.size w wr)
  case atStart => exact ⟨0, [], [], rfl, by omega, rfl, (Owns.start w).fresh _ _, ⟨rfl, by simp [pairsTo], by simp⟩, Below.refl _ _⟩
  case round =>
    obtain ⟨k, ys, rs, rfl, hk, rfl, HO, HR, hbel⟩ := hrel
    by_cases hlt : 2 * k + 1 < l.length
    · have hltz : 2 * (k : Int) + 1 < (l.length : Int) := by omega
      obtain ⟨ba, Aa, ca, hba, hxa, hsa⟩ := (HB.out.below hbel hG).at (j := 2 * k) (by omega)
      obtain ⟨bb, Ab, cb, hbb, hxb, hsb⟩ := (HB.out.below hbel hG).at (j := 2 * k + 1) (by omega)
      obtain ⟨g, o, rfl, hg, ha0, ha1⟩ := hs.hd hxa
      obtain ⟨g', o', e', _, hb0, hb1⟩ := hs.hd hxb
      injection e' with e'
      injection e' with e1 e2
      subst e1 e2
      rw [← hbel.cell (by simp; omega)] at ha0 ha1 hb0 hb1
      simp only at ha0 ha1 hb0 hb1
      have la := Hsy.out _ (List.mem_of_getElem? hba)
      have lb := Hsy.out _ (List.mem_of_getElem? hbb)
      have na := Hc.out _ (List.mem_of_getElem? hba)
      have nb := Hc.out _ (List.mem_of_getElem? hbb)
      have Hp := veil (pairsTo_succ hba hbb)
      clear hxa hxb hba hbb
      obtain ⟨ca1, sa⟩ := ba
      obtain ⟨cb1, sb⟩ := bb
      simp only at ha0 ha1 hb0 hb1 hsa hsb la lb na nb
      have hgw : g < wr.heap.size := by have := hbel.size; omega
      have hgw2 : g < wr.heap.size + 1 := by omega
      have hgn : g ≠ wr.heap.size := by omega
      have hgn2 : g ≠ wr.heap.size + 1 := by omega
      have e1 : ((2 * k + 1 : Nat) : Int) = 2 * (k : Int) + 1 := by omega
      rw [e1]
      have r1 : IntKind.i64.wrap (2 * (k : Int) + 1 - 1) = 2 * (k : Int) := by rw [IntKind.wrap_i64]; omega
      have r2 : IntKind.i64.wrap (2 * (k : Int)) = 2 * (k : Int) := by rw [IntKind.wrap_i64]; omega
      have p1 : (0 : Int) ≤ 2 * (k : Int) := by omega
      have p2 : (0 : Int) ≤ 2 * (k : Int) + 1 := by omega
      have b1 : 2 * (k : Int) < (l.length : Int) := by omega
      have t1 : (2 * (k : Int)).toNat = 2 * k := by omega
      have t2 : (2 * (k : Int) + 1).toNat = 2 * k + 1 := by omega
      go_upto_region 5 with fail
      go_cut [5, 6] (fun v5 v6 wx => ∃ p q : Nat, v5 = .pointer (some ⟨p, 0, none⟩) ∧ v6 = .pointer (some ⟨q, 0, none⟩) ∧ wr.heap.size ≤ p ∧ p < wx.heap.size ∧ wr.heap.size ≤ q ∧ q < wx.heap.size ∧ wx.cell? ⟨p, 0, none⟩ = some (.int .i64 (ca1 : Int)) ∧ wx.cell? ⟨p, 1, none⟩ = some (.slice Aa sa.length ca) ∧ wx.cell? ⟨q, 0, none⟩ = some (.int .i64 (cb1 : Int)) ∧ wx.cell? ⟨q, 1, none⟩ = some (.slice Ab sb.length cb) ∧ Below wr.heap.size wr wx)
      case first =>
        go_big_region
        · go_wp2
          go_meet
          case rel => exact ⟨_, _, rfl, rfl, by simp <;> omega, by simp <;> omega, by simp <;> omega, by simp <;> omega, by simp, by simp, by simp, by simp, (below2 wr _ _).drew⟩
        · go_wp2
          go_meet
          case rel => exact ⟨_, _, rfl, rfl, by simp <;> omega, by simp <;> omega, by simp <;> omega, by simp <;> omega, by simp, by simp, by simp, by simp, (below2 wr _ _).drew⟩
      case rest =>
        obtain ⟨p, q, rfl, rfl, hp1, hp2, hq1, hq2, cp0, cp1, cq0, cq1, hbx⟩ := hcut
        have HOx := HO.below hbx
        have hsx := hsa.below hbx (show G ≤ wr.heap.size by have := hbel.size; omega)
        have hsy := hsb.below hbx (show G ≤ wr.heap.size by have := hbel.size; omega)
        have hbel2 := hbel.trans (hbx.mono hbel.size)
        have hGx : G ≤ wc.heap.size := Nat.le_trans hG hbel2.size
        have hsz := hbx.size
        have hnep : some p ≠ u3.ownBlock := fun e => by have := (HO.head.lt p e.symm).2; omega
        have hneq : some q ≠ u3.ownBlock := fun e => by have := (HO.head.lt q e.symm).2; omega
        clear HO hbx ha0 ha1 hb0 hb1 hsa hsb hgw hgw2 hgn hgn2 e1 r1 r2 p1 p2 b1 t1 t2 hbel
        go_wp2_with fail
        have HC := veil (concat2_any wc.heap.size 2 ca cb Aa Ab sa sb (wc.drew.alloc (.cells #[.slice Aa sa.length ca, .slice Ab sb.length cb] 23)) (by simp) (World.cell?_alloc_at (w := wc.drew) _ _ _ _ rfl) (World.cell?_alloc_at (w := wc.drew) _ _ _ _ rfl) ((hsx.alloc hGx _).up (by simp; omega)) ((hsy.alloc hGx _).up (by simp; omega)) (by omega))
        have hwc : IntKind.i64.wrap ((ca1 : Int) + (cb1 : Int)) = (ca1 : Int) + (cb1 : Int) := by rw [IntKind.wrap_i64]; omega
        have hn1 : ys.length + 1 ≤ maxLen := by have := HR.out.1; unfold maxLen; omega
        have hn2 : (ys.length + 1) * 32 ≤ 140737488355328 := by have := HR.out.1; omega
        have hp3 : p < (wc.drew.alloc (.cells #[.slice Aa sa.length ca, .slice Ab sb.length cb] 23)).heap.size := by simp; omega
        have hq3 : q < (wc.drew.alloc (.cells #[.slice Aa sa.length ca, .slice Ab sb.length cb] 23)).heap.size := by simp; omega
        generalize hW : wc = W at *
        go_region_held3 (fun w' => w'.cell? ⟨p, 0, none⟩ = some (.int .i64 (ca1 : Int)) ∧ w'.cell? ⟨p, 1, none⟩ = some (.slice Aa sa.length ca) ∧ w'.cell? ⟨q, 0, none⟩ = some (.int .i64 (cb1 : Int)) ∧ w'.cell? ⟨q, 1, none⟩ = some (.slice Ab sb.length cb))
          (first
            | go_keep
            | (go_split_ands
               refine ⟨?_, ?_, ?_, ?_⟩
               · (first | (refine (hb1.cell hp3).trans ?_; assumption) | (refine reg_far hgr2 hnep ?_; assumption))
               · (first | (refine (hb1.cell hp3).trans ?_; assumption) | (refine reg_far hgr2 hnep ?_; assumption))
               · (first | (refine (hb1.cell hq3).trans ?_; assumption) | (refine reg_far hgr2 hneq ?_; assumption))
               · (first | (refine (hb1.cell hq3).trans ?_; assumption) | (refine reg_far hgr2 hneq ?_; assumption))))
          (first
            | (go_at_call 51; refine HC.out.mono ?_; rintro e w1 ⟨Av, cv, rfl, HOv, hb1⟩)
            | (refine step_ownV _ ?aq1 (.tmp 22) (.tmp 35) _ ?bq1 w.heap.size 68 2 32 elemB u3 ys.length (hCells ys) (_ :: rs) ?cq1 ((((HOx.drew.alloc _).call hb1 HOv).swap).alloc _) _ (some ⟨w1.heap.size, 0, none⟩) 1 1 [.int .i64 ((ca1 : Int) + (cb1 : Int)), .slice Av (sa.length + sb.length) cv] ?dq1 (Seen.new w1 _ _ (w1.heap.size + 1) (Nat.lt_succ_self _)) rfl ?eq1 hn1 hn2 ?_
               case aq1 => rfl
               case bq1 => rfl
               case cq1 => rfl
               case dq1 => rfl
               case eq1 => simp [Value.oneCell']
               intro v2 w2 HO2 hgr2 hbl2)
            | fail)
        have hbel3 : Below w.heap.size w w2 := by
          have h0 : Below w.heap.size W (W.drew.alloc (.cells #[.slice Aa sa.length ca, .slice Ab sb.length cb] 23)) := ((Below.refl _ W).drew).alloc hbel2.size _
          have h1 := h0.trans (hb1.mono (Nat.le_trans hbel2.size h0.size))
          exact hbel2.trans ((h1.alloc (Nat.le_trans hbel2.size h1.size) _).trans hbl2)
        have HO3 : Owns w.heap.size (hRow v2 (ys ++ [((ca1 : Int) + (cb1 : Int), Av, sa.length + sb.length, cv)]) :: symRow ((ca1 : Int) + (cb1 : Int), Av, sa.length + sb.length, cv) (sa ++ sb) :: rs) w2 := by
          rw [← hRow_snoc]; exact HO2
        have HR3 : Hid ((ys ++ [(((ca1 : Int) + (cb1 : Int), Av, sa.length + sb.length, cv) : Hd)]).length = k + 1 ∧ Rowed (symRow ((ca1 : Int) + (cb1 : Int), Av, sa.length + sb.length, cv) (sa ++ sb) :: rs) (pairsTo l (k + 1)) (ys ++ [((ca1 : Int) + (cb1 : Int), Av, sa.length + sb.length, cv)])) := by
          refine ⟨by simp [HR.out.1], ?_⟩
          rw [Hp.out]
          exact HR.out.2.snoc _ (mergeB (ca1, sa) (cb1, sb)) (by simp [mergeB]) (by simp [mergeB])
        clear HO2 HOx HOv hgr2 hbl2 hb1 HC hsx hsy hp3 hq3 hbel2 hwc cp0 cp1 cq0 cq1
        go_wp2_with fail
        go_roundg (l.length - 2 * (k + 1))
        case rel => exact ⟨k + 1, _, _, rfl, by omega, by go_num, HO3, HR3, hbel3⟩
        case measure => omega
    · have hltz : ¬ 2 * (k : Int) + 1 < (l.length : Int) := by omega
      go_wp2
      go_ret
      refine ⟨ys, rs, _, rfl, HO, ?_, hbel⟩
      have := HR.out.2
      rw [pairsTo_all (by omega)] at this
      exact this
end Go.Proofs.Ythelblkpfkngmaa
