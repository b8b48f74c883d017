/- Texts shared by the claims of this seat, in one. -/
import Derived.Test.YtddkhkpdbjjboaaBd13
import Derived.Test.YtddkhkpdbjjboaaBd4
import Derived.StillTailTactics
import Derived.Deep.DeepCutAuto
import Derived.BigRegion
import Derived.Test.YtddkhkpdbjjboaaBd12
import Derived.Deep.WholeRow
/- best.pairs: its contract. -/
namespace Go.Proofs.Ytddkhkpdbjjboaa
open Go.RowKit
set_option linter.unusedVariables false
set_option linter.unusedSimpArgs false
set_option maxRecDepth 100000

/-- The pairs that have been made. -/
def pairsTo (l : List Bun) (k : Nat) : List Bun := (pairsOf l).take k
def hRow (v : Value) (xs : List Hd) : Row := ⟨150, 2, v, xs.length, hCells xs⟩
def symRow (x : Hd) (s : List Int) : Row := intRow 3 .i64 (.slice x.2.1 x.2.2.1 x.2.2.2) s
/-- Each of these bundles has a row of its own. -/
def Rowed (rs : List Row) (l : List Bun) (xs : List Hd) : Prop := l.length = xs.length ∧ ∀ (j : Nat) (b : Bun) (x : Hd), l[j]? = some b → xs[j]? = some x → x.1 = (b.1 : Int) ∧ x.2.2.1 = b.2.length ∧ symRow x b.2 ∈ rs
theorem Rowed.buns {rs : List Row} {l : List Bun} {xs : List Hd} (h : Rowed rs l xs) {B : Nat} {w : World} (HO : Owns B rs w) : BunsAre w w.heap.size l xs := by
  refine ⟨h.1, fun j b x hb hx => ?_⟩
  obtain ⟨h1, h2, h3⟩ := h.2 j b x hb hx
  obtain ⟨A, c, e, hs, _, _⟩ := HO.seen h3
  simp only [symRow, intRow, Value.slice.injEq] at e hs
  obtain ⟨e1, e2, e3⟩ := e
  exact ⟨h1, h2, by rw [e1]; exact hs⟩
theorem pairsOf_at (l : List Bun) : ∀ (k : Nat) (a b : Bun), l[2 * k]? = some a → l[2 * k + 1]? = some b → (pairsOf l)[k]? = some (mergeB a b) := by
  induction l using two_ind with
  | h0 => intro k a b h; simp at h
  | h1 x => intro k a b h1 h2; simp at h2
  | h2 x y l ih =>
    intro k a b h1 h2
    cases k with
    | zero => simp at h1 h2; subst h1 h2; rfl
    | succ k =>
      rw [show 2 * (k + 1) = 2 * k + 1 + 1 by omega] at h1 h2
      simp only [List.getElem?_cons_succ] at h1 h2
      exact ih k a b h1 h2

theorem Rowed.snoc {rs : List Row} {l : List Bun} {xs : List Hd} (h : Rowed rs l xs) (x : Hd) (b : Bun) (h1 : x.1 = (b.1 : Int)) (h2 : x.2.2.1 = b.2.length) : Rowed (symRow x b.2 :: rs) (l ++ [b]) (xs ++ [x]) := by
  refine ⟨by simp [h.1], fun j b' x' hb hx => ?_⟩
  by_cases hj : j < l.length
  · rw [List.getElem?_append_left hj] at hb
    rw [List.getElem?_append_left (by rw [← h.1]; exact hj)] at hx
    obtain ⟨g1, g2, g3⟩ := h.2 j b' x' hb hx
    exact ⟨g1, g2, List.mem_cons_of_mem _ g3⟩
  · rw [List.getElem?_append_right (by omega)] at hb
    rw [List.getElem?_append_right (by rw [← h.1]; omega), ← h.1] at hx
    have hz : j - l.length = 0 := by
      have := (List.getElem?_eq_some_iff.1 hb).1
      simp at this; omega
    rw [hz] at hb hx
    simp at hb hx
    subst hb hx
    exact ⟨h1, h2, List.mem_cons_self⟩
theorem pairsTo_succ {l : List Bun} {k : Nat} {a b : Bun} (ha : l[2 * k]? = some a) (hb : l[2 * k + 1]? = some b) : pairsTo l (k + 1) = pairsTo l k ++ [mergeB a b] := take_snoc (pairsOf_at l k a b ha hb)
theorem pairsTo_all {l : List Bun} {k : Nat} (h : l.length ≤ 2 * k + 1) : pairsTo l k = pairsOf l := by
  unfold pairsTo
  rw [List.take_of_length_le]
  rw [pairsOf_length]; omega
/-- slices.Concat of two rows of numbers. -/
theorem concat2_any (b c c1 c2 : Nat) (A1 A2 : Option Addr) (sa sb : List Int) (w : World) (hb : b < w.heap.size) (h0 : w.cell? ⟨b, 0, none⟩ = some (.slice A1 sa.length c1)) (h1 : w.cell? ⟨b, 1, none⟩ = some (.slice A2 sb.length c2))
    (hs1 : Seen w w.heap.size A1 (ints .i64 sa)) (hs2 : Seen w w.heap.size A2 (ints .i64 sb)) (hn : sa.length + sb.length ≤ 1048576) :
    Calls Try.prog 100 #[.slice (some ⟨b, 0, none⟩) 2 c] w fun e w' => ∃ Av cv, e = .returned (.slice Av (sa.length + sb.length) cv) ∧ Owns w.heap.size [intRow 3 .i64 (.slice Av (sa.length + sb.length) cv) (sa ++ sb)] w' ∧ Below w.heap.size w w' := by
  refine (concatN_any b c sa.length sb.length c1 c2 A1 A2 (ints .i64 sa) (ints .i64 sb) w hb h0 h1 hs1 hs2 (by rw [ints_length]; omega) (by rw [ints_length]; omega) ints_one ints_one hn).mono ?_
  rintro e w' ⟨v, rfl, HO, hb⟩
  rw [intRow_append] at HO
  obtain ⟨A, c, e, _, _, _⟩ := HO.seen (List.mem_singleton.2 rfl)
  simp only [intRow, List.length_append] at e
  subst e
  exact ⟨A, c, rfl, HO, hb⟩
theorem hRow_snoc (v : Value) (ys : List Hd) (x : Hd) : (⟨150, 2, v, ys.length + 1, hCells ys ++ [.int .i64 x.1, .slice x.2.1 x.2.2.1 x.2.2.2]⟩ : Row) = hRow v (ys ++ [x]) := by
  simp [hRow, hCells_append]; rfl

set_option maxHeartbeats 4000000 in
set_option maxRecDepth 100000 in
theorem pairs_any (A : Option Addr) (c G : Nat) (l : List Bun) (xs : List Hd) (w : World) (hs : Seen w G A (hCells xs)) (hB : BunsAre w G l xs) (hG : G ≤ w.heap.size) (hl : l.length ≤ 1024) (hc : ∀ b ∈ l, b.1 ≤ 1099511627776) (hsy : ∀ b ∈ l, b.2.length ≤ 131072) :
    Calls Try.prog 80 #[.slice A l.length c] w fun e w' => ∃ ys rs v, e = .returned v ∧ Owns w.heap.size (hRow v ys :: rs) w' ∧ Rowed rs (pairsOf l) ys ∧ Below w.heap.size w w' := by
  have HB := veil hB; have Hc := veil hc; have Hsy := veil hsy
  clear hB hc hsy
  go_enter Try.func80, Try.ntmps80
  go_wp2
  go_loopg [3, 4] l.length (fun gk v i wr => ∃ (k : Nat) (ys : List Hd) (rs : List Row), gk = l.length - 2 * k ∧ 2 * k ≤ l.length ∧ i = .int .i64 ((2 * k + 1 : Nat) : Int) ∧ Owns w.heap.size (hRow v ys :: rs) wr ∧ Hid (ys.length = k ∧ Rowed rs (pairsTo l k) ys) ∧ Below w.heap.size w wr)
  case atStart => exact ⟨0, [], [], rfl, by omega, rfl, (Owns.start w).fresh _ _, ⟨rfl, by simp [pairsTo], by simp⟩, Below.refl _ _⟩
  case round =>
    obtain ⟨k, ys, rs, rfl, hk, rfl, HO, HR, hbel⟩ := hrel
    by_cases hlt : 2 * k + 1 < l.length
    · have hltz : 2 * (k : Int) + 1 < (l.length : Int) := by omega
      obtain ⟨ba, Aa, ca, hba, hxa, hsa⟩ := (HB.out.below hbel hG).at (j := 2 * k) (by omega)
      obtain ⟨bb, Ab, cb, hbb, hxb, hsb⟩ := (HB.out.below hbel hG).at (j := 2 * k + 1) (by omega)
      obtain ⟨g, o, rfl, hg, ha0, ha1⟩ := hs.hd hxa
      obtain ⟨g', o', e', _, hb0, hb1⟩ := hs.hd hxb
      injection e' with e'
      injection e' with e1 e2
      subst e1 e2
      rw [← hbel.cell (by simp; omega)] at ha0 ha1 hb0 hb1
      simp only at ha0 ha1 hb0 hb1
      have la := Hsy.out _ (List.mem_of_getElem? hba)
      have lb := Hsy.out _ (List.mem_of_getElem? hbb)
      have na := Hc.out _ (List.mem_of_getElem? hba)
      have nb := Hc.out _ (List.mem_of_getElem? hbb)
      have Hp := veil (pairsTo_succ hba hbb)
      clear hxa hxb hba hbb
      obtain ⟨ca1, sa⟩ := ba
      obtain ⟨cb1, sb⟩ := bb
      simp only at ha0 ha1 hb0 hb1 hsa hsb la lb na nb
      have hgw : g < wr.heap.size := by have := hbel.size; omega
      have hgw2 : g < wr.heap.size + 1 := by omega
      have hgn : g ≠ wr.heap.size := by omega
      have hgn2 : g ≠ wr.heap.size + 1 := by omega
      have e1 : ((2 * k + 1 : Nat) : Int) = 2 * (k : Int) + 1 := by omega
      rw [e1]
      have r1 : IntKind.i64.wrap (2 * (k : Int) + 1 - 1) = 2 * (k : Int) := by rw [IntKind.wrap_i64]; omega
      have r2 : IntKind.i64.wrap (2 * (k : Int)) = 2 * (k : Int) := by rw [IntKind.wrap_i64]; omega
      have p1 : (0 : Int) ≤ 2 * (k : Int) := by omega
      have p2 : (0 : Int) ≤ 2 * (k : Int) + 1 := by omega
      have b1 : 2 * (k : Int) < (l.length : Int) := by omega
      have t1 : (2 * (k : Int)).toNat = 2 * k := by omega
      have t2 : (2 * (k : Int) + 1).toNat = 2 * k + 1 := by omega
      go_upto_region 5 with fail
      go_cut [5, 6] (fun v5 v6 wx => ∃ p q : Nat, v5 = .pointer (some ⟨p, 0, none⟩) ∧ v6 = .pointer (some ⟨q, 0, none⟩) ∧ wr.heap.size ≤ p ∧ p < wx.heap.size ∧ wr.heap.size ≤ q ∧ q < wx.heap.size ∧ wx.cell? ⟨p, 0, none⟩ = some (.int .i64 (ca1 : Int)) ∧ wx.cell? ⟨p, 1, none⟩ = some (.slice Aa sa.length ca) ∧ wx.cell? ⟨q, 0, none⟩ = some (.int .i64 (cb1 : Int)) ∧ wx.cell? ⟨q, 1, none⟩ = some (.slice Ab sb.length cb) ∧ Below wr.heap.size wr wx)
      case first =>
        go_big_region
        · go_wp2
          go_meet
          case rel => exact ⟨_, _, rfl, rfl, by simp <;> omega, by simp <;> omega, by simp <;> omega, by simp <;> omega, by simp, by simp, by simp, by simp, (below2 wr _ _).drew⟩
        · go_wp2
          go_meet
          case rel => exact ⟨_, _, rfl, rfl, by simp <;> omega, by simp <;> omega, by simp <;> omega, by simp <;> omega, by simp, by simp, by simp, by simp, (below2 wr _ _).drew⟩
      case rest =>
        obtain ⟨p, q, rfl, rfl, hp1, hp2, hq1, hq2, cp0, cp1, cq0, cq1, hbx⟩ := hcut
        have HOx := HO.below hbx
        have hsx := hsa.below hbx (show G ≤ wr.heap.size by have := hbel.size; omega)
        have hsy := hsb.below hbx (show G ≤ wr.heap.size by have := hbel.size; omega)
        have hbel2 := hbel.trans (hbx.mono hbel.size)
        have hGx : G ≤ wc.heap.size := Nat.le_trans hG hbel2.size
        have hsz := hbx.size
        have hnep : some p ≠ u3.ownBlock := fun e => by have := (HO.head.lt p e.symm).2; omega
        have hneq : some q ≠ u3.ownBlock := fun e => by have := (HO.head.lt q e.symm).2; omega
        clear HO hbx ha0 ha1 hb0 hb1 hsa hsb hgw hgw2 hgn hgn2 e1 r1 r2 p1 p2 b1 t1 t2 hbel
        go_wp2_with fail
        have HC := veil (concat2_any wc.heap.size 2 ca cb Aa Ab sa sb (wc.drew.alloc (.cells #[.slice Aa sa.length ca, .slice Ab sb.length cb] 23)) (by simp) (World.cell?_alloc_at (w := wc.drew) _ _ _ _ rfl) (World.cell?_alloc_at (w := wc.drew) _ _ _ _ rfl) ((hsx.alloc hGx _).up (by simp; omega)) ((hsy.alloc hGx _).up (by simp; omega)) (by omega))
        have hwc : IntKind.i64.wrap ((ca1 : Int) + (cb1 : Int)) = (ca1 : Int) + (cb1 : Int) := by rw [IntKind.wrap_i64]; omega
        have hn1 : ys.length + 1 ≤ maxLen := by have := HR.out.1; unfold maxLen; omega
        have hn2 : (ys.length + 1) * 32 ≤ 140737488355328 := by have := HR.out.1; omega
        have hp3 : p < (wc.drew.alloc (.cells #[.slice Aa sa.length ca, .slice Ab sb.length cb] 23)).heap.size := by simp; omega
        have hq3 : q < (wc.drew.alloc (.cells #[.slice Aa sa.length ca, .slice Ab sb.length cb] 23)).heap.size := by simp; omega
        generalize hW : wc = W at *
        go_region_held3 (fun w' => w'.cell? ⟨p, 0, none⟩ = some (.int .i64 (ca1 : Int)) ∧ w'.cell? ⟨p, 1, none⟩ = some (.slice Aa sa.length ca) ∧ w'.cell? ⟨q, 0, none⟩ = some (.int .i64 (cb1 : Int)) ∧ w'.cell? ⟨q, 1, none⟩ = some (.slice Ab sb.length cb))
          (first
            | go_keep
            | (go_split_ands
               refine ⟨?_, ?_, ?_, ?_⟩
               · (first | (refine (hb1.cell hp3).trans ?_; assumption) | (refine reg_far hgr2 hnep ?_; assumption))
               · (first | (refine (hb1.cell hp3).trans ?_; assumption) | (refine reg_far hgr2 hnep ?_; assumption))
               · (first | (refine (hb1.cell hq3).trans ?_; assumption) | (refine reg_far hgr2 hneq ?_; assumption))
               · (first | (refine (hb1.cell hq3).trans ?_; assumption) | (refine reg_far hgr2 hneq ?_; assumption))))
          (first
            | (go_at_call 100; refine HC.out.mono ?_; rintro e w1 ⟨Av, cv, rfl, HOv, hb1⟩)
            | (refine step_ownV _ ?aq1 (.tmp 22) (.tmp 35) _ ?bq1 w.heap.size 150 2 32 elemB u3 ys.length (hCells ys) (_ :: rs) ?cq1 ((((HOx.drew.alloc _).call hb1 HOv).swap).alloc _) _ (some ⟨w1.heap.size, 0, none⟩) 1 1 [.int .i64 ((ca1 : Int) + (cb1 : Int)), .slice Av (sa.length + sb.length) cv] ?dq1 (Seen.new w1 _ _ (w1.heap.size + 1) (Nat.lt_succ_self _)) rfl ?eq1 hn1 hn2 ?_
               case aq1 => rfl
               case bq1 => rfl
               case cq1 => rfl
               case dq1 => rfl
               case eq1 => simp [Value.oneCell']
               intro v2 w2 HO2 hgr2 hbl2)
            | fail)
        have hbel3 : Below w.heap.size w w2 := by
          have h0 : Below w.heap.size W (W.drew.alloc (.cells #[.slice Aa sa.length ca, .slice Ab sb.length cb] 23)) := ((Below.refl _ W).drew).alloc hbel2.size _
          have h1 := h0.trans (hb1.mono (Nat.le_trans hbel2.size h0.size))
          exact hbel2.trans ((h1.alloc (Nat.le_trans hbel2.size h1.size) _).trans hbl2)
        have HO3 : Owns w.heap.size (hRow v2 (ys ++ [((ca1 : Int) + (cb1 : Int), Av, sa.length + sb.length, cv)]) :: symRow ((ca1 : Int) + (cb1 : Int), Av, sa.length + sb.length, cv) (sa ++ sb) :: rs) w2 := by
          rw [← hRow_snoc]; exact HO2
        have HR3 : Hid ((ys ++ [(((ca1 : Int) + (cb1 : Int), Av, sa.length + sb.length, cv) : Hd)]).length = k + 1 ∧ Rowed (symRow ((ca1 : Int) + (cb1 : Int), Av, sa.length + sb.length, cv) (sa ++ sb) :: rs) (pairsTo l (k + 1)) (ys ++ [((ca1 : Int) + (cb1 : Int), Av, sa.length + sb.length, cv)])) := by
          refine ⟨by simp [HR.out.1], ?_⟩
          rw [Hp.out]
          exact HR.out.2.snoc _ (mergeB (ca1, sa) (cb1, sb)) (by simp [mergeB]) (by simp [mergeB])
        clear HO2 HOx HOv hgr2 hbl2 hb1 HC hsx hsy hp3 hq3 hbel2 hwc cp0 cp1 cq0 cq1
        go_wp2_with fail
        go_roundg (l.length - 2 * (k + 1))
        case rel => exact ⟨k + 1, _, _, rfl, by omega, by go_num, HO3, HR3, hbel3⟩
        case measure => omega
    · have hltz : ¬ 2 * (k : Int) + 1 < (l.length : Int) := by omega
      go_wp2
      go_ret
      refine ⟨ys, rs, _, rfl, HO, ?_, hbel⟩
      have := HR.out.2
      rw [pairsTo_all (by omega)] at this
      exact this
end Go.Proofs.Ytddkhkpdbjjboaa

/- best.singles: its contract. -/
namespace Go.Proofs.Ytddkhkpdbjjboaa
open Go.RowKit Go.Shelf
set_option linter.unusedVariables false
set_option linter.unusedSimpArgs false
set_option maxRecDepth 100000
attribute [local go_sem] Oper.semAt_some

/-- In a fence: append of what is seen onto the first of the rows. -/
theorem wpListIn_ownV {F : Fence} {k : Nat} {P : Program} {ops : Array Oper} {rest : List Oper} {o : Oper} {a : Act} {Q : Exit → Act → World → Prop} (w : World) (hgd : o.guard = none) (s x : Operand) (t : TypeId)
    (ho : o.op = .call { callee := .builtin .append, args := #[s, x], argTypes := #[t, t] })
    (B : Nat) (e : TypeId) (size bytes : Nat) (he : ElemOf P t e size bytes)
    (v : Value) (n : Nat) (xs : List Value) (rs : List Row) (hs : a.eval s = v) (HO : Owns B (⟨e, size, v, n, xs⟩ :: rs) w) (G : Nat) (A : Option Addr) (m c : Nat) (news : List Value) (hx : a.eval x = .slice A m c) (hsee : Seen w G A news) (hl : news.length = m * size) (h1 : ∀ u ∈ news, u.oneCell' = true)
    (h63 : n + m ≤ maxLen) (hbytes : (n + m) * bytes ≤ 140737488355328)
    (h : ∀ v' w', Owns B (⟨e, size, v', n + m, xs ++ news⟩ :: rs) w' → w.grownBy w' v.ownBlock → Below B w w' → wpListIn F k P ops Q rest (a.put o.dst v') w') : wpListIn F k P ops Q (o :: rest) a w := by
  refine wpListIn_plain hgd fun K hK' => ?_
  obtain ⟨v', w', hr, h2, h3, h4⟩ := run_ownV (P := P) w B t o.type e size bytes he v n xs rs HO G A m c news hsee hl h1 h63 hbytes
  unfold Oper.wpIn
  refine ⟨?_, ?_⟩
  · simp [Oper.about, ho, resolve, Target.leads, Sem.run_pure]
  · rw [Oper.semAt_plain F _ _ (by rw [ho]; intro c hc'; cases hc')]
    simp [execOp, ho, resolve, invoke, builtin, hs, hx, hr, Result.andThen]
    exact hK' _ _ (h v' w' h2 h3 h4)
/-- A row that was just laid. -/
theorem Owns.laid {B : Nat} {rs : List Row} {w : World} (h : Owns B rs w) (e : TypeId) (size n : Nat) (xs : List Value) (hl : xs.length = n * size) (hn : n ≤ maxLen) :
    Owns B (⟨e, size, .slice (some ⟨w.heap.size, 0, none⟩) n n, n, xs⟩ :: rs) (w.alloc (.cells xs.toArray e)) :=
  h.call (below1 w _) (ts := [⟨e, size, .slice (some ⟨w.heap.size, 0, none⟩) n n, n, xs⟩]) (.one (by simp) ⟨hl, .inr ⟨w.heap.size, n, xs.toArray, rfl, Nat.le_refl _, heap_alloc_last w _, Nat.le_refl _, hn, by simp [hl], by rw [List.take_of_length_le (by simp; omega)]⟩⟩)
theorem Owns.turn {B : Nat} {rs : List Row} {W W' : World} {row : Option Nat} (h : Owns B rs W) (hg : W.grownBy W' row) (hr : ∀ r, row = some r → ∃ o : Obj, W.heap[r]? = some o ∧ o.isCells = false) : Owns B rs W' := by
  refine ⟨Nat.le_trans h.base hg.size, fun r hm => ?_, h.apart⟩
  have h1 := h.each r hm
  refine h1.kept hg ?_
  rcases h1.2 with ⟨hv, _⟩ | ⟨g, cap, cur, hv, _, hgb, _⟩
  · rw [hv]; exact .inl rfl
  · rw [hv]
    refine .inr fun e' => ?_
    obtain ⟨o, ho, hc⟩ := hr g e'.symm
    rw [hgb] at ho; cases ho; cases hc
/-- A variable that lies in a box. -/
def bxRow (b : Nat) (t : TypeId) (u : Value) : Row := ⟨t, 1, .slice (some ⟨b, 0, none⟩) 1 1, 1, [u]⟩
theorem boxed_of {B b : Nat} {t : TypeId} {u : Value} {rs : List Row} {w : World} (h : Owns B rs w) (hm : bxRow b t u ∈ rs) : Boxed w b t u := by
  rcases (h.each _ hm).2 with ⟨hv, _⟩ | ⟨g, cap, cur, hv, _, hgb, _, _, hs, ht⟩
  · simp [bxRow] at hv
  · simp only [bxRow, Value.slice.injEq, Option.some.injEq, Addr.mk.injEq, and_true, true_and] at hv ht hgb
    obtain ⟨rfl, rfl⟩ := hv
    have hl : cur.toList = [u] := by
      rw [← ht, List.take_of_length_le (by simp [hs]; exact Nat.le_refl 1)]
    have : cur = #[u] := by
      cases cur; simp at hl; subst hl; rfl
    subst this
    exact hgb
theorem Owns.setBox {B b : Nat} {t : TypeId} {u : Value} {rs : List Row} {w : World} (h : Owns B (bxRow b t u :: rs) w) (u' : Value) : Owns B (bxRow b t u' :: rs) (w.setCell ⟨b, 0, none⟩ u') := by
  have hg := grownBy_setCell' w b u'
  have hap := List.pairwise_cons.1 h.apart
  refine ⟨Nat.le_trans h.base hg.size, fun r hm => ?_, List.pairwise_cons.2 ⟨fun s hs => hap.1 s hs, hap.2⟩⟩
  rcases List.mem_cons.1 hm with rfl | hm
  · have h1 := (boxed_of h List.mem_cons_self).set u'
    have h2 := ((h.each _ List.mem_cons_self).lt b rfl).1
    exact ⟨rfl, .inr ⟨b, 1, #[u'], rfl, h2, h1, Nat.le_refl _, by unfold maxLen; omega, rfl, rfl⟩⟩
  · refine (h.each r (List.mem_cons_of_mem _ hm)).kept hg ?_
    cases hv : r.v.ownBlock with
    | none => exact .inl rfl
    | some g => exact .inr fun e => hap.1 r hm b rfl (by rw [hv, e])
theorem row_cells {w : World} {B : Nat} {e : TypeId} {size : Nat} {v : Value} {n : Nat} {xs : List Value} (h : w.ownsRow B e size v n xs) : ∀ (j : Nat) (o : Obj), v.ownBlock = some j → w.heap[j]? = some o → o.isCells = true := by
  intro j o ej hj
  rcases h.2 with ⟨rfl, _⟩ | ⟨g, cap, cur, rfl, _, hgb, _⟩
  · simp [Value.ownBlock] at ej
  · obtain rfl : g = j := by simpa [Value.ownBlock] using ej
    rw [hgb] at hj; cases hj; rfl

/-- The bundles of what has come. -/
def sing (pre : List (Int × Int)) : List Bun := (0, [-1]) :: (pre.filter fun x => decide (0 < x.2)).map fun x => (x.2.toNat, [x.1])
theorem sing_yes (pre : List (Int × Int)) {x : Int × Int} (h : 0 < x.2) : sing (pre ++ [x]) = sing pre ++ [(x.2.toNat, [x.1])] := by simp [sing, h]
theorem sing_no (pre : List (Int × Int)) {x : Int × Int} (h : ¬ 0 < x.2) : sing (pre ++ [x]) = sing pre := by simp [sing, h]
theorem sing_len (pre : List (Int × Int)) : (sing pre).length ≤ pre.length + 1 := by
  have := List.length_filter_le (fun x : Int × Int => decide (0 < x.2)) pre
  simp [sing]; omega
/-- What lies there between two rounds. -/
def SingI (w : World) (A : Option Addr) (len cap : Nat) (pre : List (Int × Int)) (W : World) : Prop :=
  (∃ Av cv ys rs, Owns w.heap.size (bxRow (w.heap.size + 1 + 1) 118 (.slice Av ys.length cv) :: bxRow (w.heap.size + 1 + 1 + 1) 23 (.slice A len cap) :: hRow (.slice Av ys.length cv) ys :: rs) W ∧ Rowed rs (sing pre) ys) ∧ Below w.heap.size w W
theorem singI_own (w : World) (A : Option Addr) (len cap N : Nat) (hN : w.heap.size ≤ N) : OwnFrom N (SingI w A len cap) :=
  OwnFrom.and (Own.from (fun s X Y row ⟨Av, cv, ys, rs, HO, hR⟩ hg hr => ⟨Av, cv, ys, rs, HO.turn hg hr, hR⟩) _) (ownFrom_below (Nat.le_refl _) hN)

set_option maxRecDepth 100000 in
set_option maxHeartbeats 4000000 in
theorem singles_in (F : Fence) (n : Nat) (h1' : F.fn 58) (h2' : F.fn 84) (h3' : F.fn 103) (hro : F.round = none) (hn : 3 ≤ n) (A : Option Addr) (cap G : Nat) (zs : List Int) (w : World) (hs : Seen w G A (ints .i64 zs)) (hG : G ≤ w.heap.size) (hl : zs.length ≤ 1024) :
    CallsIn F n Try.prog 58 #[.slice A zs.length cap] w fun e w' => ∃ ys rs v, e = .returned v ∧ Owns w.heap.size (hRow v ys :: rs) w' ∧ Rowed rs (sing (backTo zs 0)) ys ∧ Below w.heap.size w w' := by
  have h1 : 1 ≤ n := by omega
  refine callsIn_of_wp_marks Try.func58 rfl h1' ?_ hro
  simp only [Try.ntmps58, List.size_toArray, List.length_cons, List.length_nil, Nat.reduceAdd, Nat.reduceSub, Array.replicate_succ, Array.replicate_zero, List.push_toArray, List.append_toArray, List.nil_append, List.cons_append]
  gi_wp2_with (gi_at_call 84; refine (back_in F (n - 1) h2' hro _ _ _ _).mono ?_; rintro e w' ⟨rfl, rfl⟩)
  have hst : SingI w A zs.length cap [] ((((w.alloc (Obj.cells #[Value.int IntKind.i64 (-1)] 3)).alloc (Obj.cells #[Value.int IntKind.i64 0, Value.slice (some ⟨w.heap.size, 0, none⟩) 1 1] 150)).alloc (Obj.cells #[Value.slice (some ⟨w.heap.size + 1, 0, none⟩) 1 1] 118)).alloc (Obj.cells #[Value.slice A zs.length cap] 23)) := by
    have O1 := (Owns.start w).laid 3 1 1 [.int .i64 (-1)] rfl (by unfold maxLen; omega)
    have O2 := O1.laid 150 2 1 [.int .i64 0, .slice (some ⟨w.heap.size, 0, none⟩) 1 1] rfl (by unfold maxLen; omega)
    rw [World.size_alloc] at O2
    have O3 := O2.laid 118 1 1 [.slice (some ⟨w.heap.size + 1, 0, none⟩) 1 1] rfl (by unfold maxLen; omega)
    rw [World.size_alloc, World.size_alloc] at O3
    have O4 := O3.laid 23 1 1 [.slice A zs.length cap] rfl (by unfold maxLen; omega)
    rw [World.size_alloc, World.size_alloc, World.size_alloc] at O4
    have R0 : Rowed [] [] [] := ⟨rfl, by simp⟩
    refine ⟨⟨some ⟨w.heap.size + 1, 0, none⟩, 1, [(0, some ⟨w.heap.size, 0, none⟩, 1, 1)], [symRow (0, some ⟨w.heap.size, 0, none⟩, 1, 1) [-1]], O4.swap, R0.snoc (0, some ⟨w.heap.size, 0, none⟩, 1, 1) (0, [-1]) rfl rfl⟩, ?_⟩
    exact (below3 w _ _ _).alloc (by simp; omega) _
  have hcs : ((((w.alloc (Obj.cells #[Value.int IntKind.i64 (-1)] 3)).alloc (Obj.cells #[Value.int IntKind.i64 0, Value.slice (some ⟨w.heap.size, 0, none⟩) 1 1] 150)).alloc (Obj.cells #[Value.slice (some ⟨w.heap.size + 1, 0, none⟩) 1 1] 118)).alloc (Obj.cells #[Value.slice A zs.length cap] 23)).cell? ⟨w.heap.size + 1 + 1 + 1, 0, none⟩ = some (.slice A zs.length cap) := World.cell?_alloc_at _ _ _ _ (by simp)
  have hsn := ((hs.below hst.2 hG).up hG)
  refine wpIn_rangeFunc_ownG hro h1 (gf := 103) (lb := #[.pointer (some ⟨w.heap.size + 1 + 1 + 1, 0, none⟩)]) rfl h3' (enters_of Try.func103 (by kernel_rfl) rfl)
    (back_stops F (n - 1) h3' hro (by omega) (w.heap.size + 1 + 1 + 1) w.heap.size cap A zs (by omega) _ (by simp) (by simp; omega) hcs hsn) KpB.trans (KpB.put (by simp; omega) (by simp)) (Below.refl _ _) (fun _ => rfl)
    (SingI w A zs.length cap) (fun _ _ _ => False) (singI_own w A zs.length cap _ (by simp; omega)) (fun _ _ _ _ _ hs _ _ => hs) hst
    (fun x => { tmps := #[.slice A zs.length cap, undef, .slice none 0 0, .pointer (some ⟨w.heap.size + 1 + 1, 0, none⟩), .int .i64 x.1, .int .i64 x.2, .slice (some ⟨w.heap.size, 0, none⟩) 1 1, .agg #[.int .i64 0, .slice (some ⟨w.heap.size, 0, none⟩) 1 1], .slice (some ⟨w.heap.size + 1, 0, none⟩) 1 1, .slice A zs.length cap, .func (.func 103) #[] #[.pointer (some ⟨w.heap.size + 1 + 1 + 1, 0, none⟩)], .int .i64 x.1, .int .i64 x.2, undef, undef, undef, undef, undef, undef, undef, undef, undef, undef], defers := [] }) ?assign ?body ?done ?stop
  case assign =>
    intro l x W K hK
    gi_wp2
    exact hK
  case body =>
    clear hst hcs hsn
    rintro l pre ⟨xi, xn⟩ W ⟨⟨Av, cv, ys, rs, HO, hR⟩, hB⟩ hlt
    have hyl : ys.length ≤ 1024 := by have h := hR.1; have := sing_len pre; omega
    have HR := veil hR; clear hR
    have hbx := boxed_of HO List.mem_cons_self
    have hsx := boxed_of HO (List.mem_cons_of_mem _ List.mem_cons_self)
    have hc := hbx.cell
    simp only
    by_cases hx : 0 < xn
    · have HO1 := HO.laid 3 1 1 [.int .i64 xi] rfl (by unfold maxLen; omega)
      have HO2 : Owns w.heap.size (hRow (.slice Av ys.length cv) ys :: ⟨3, 1, .slice (some ⟨W.heap.size, 0, none⟩) 1 1, 1, [.int .i64 xi]⟩ :: bxRow (w.heap.size + 1 + 1) 118 (.slice Av ys.length cv) :: bxRow (w.heap.size + 1 + 1 + 1) 23 (.slice A zs.length cap) :: rs) (W.alloc (.cells #[.int .i64 xi] 3)) :=
        HO1.perm (List.perm_middle (l₁ := [_, _, _]))
      have hsee := Seen.new (W.alloc (.cells #[.int .i64 xi] 3)) [.int .i64 xn, .slice (some ⟨W.heap.size, 0, none⟩) 1 1] 150 (W.heap.size + 1 + 1) (by simp)
      rw [World.size_alloc] at hsee
      have HO3 := veil (HO2.alloc (.cells #[.int .i64 xn, .slice (some ⟨W.heap.size, 0, none⟩) 1 1] 150))
      have HOb := veil HO
      clear HO HO1 HO2
      gi_wp2_with (gi_at_builtin; refine wpListIn_ownV _ rfl _ _ 118 rfl w.heap.size 150 2 32 elemB (.slice Av ys.length cv) ys.length (hCells ys) _ rfl HO3.out _ (some ⟨W.heap.size + 1, 0, none⟩) 1 1 [.int .i64 xn, .slice (some ⟨W.heap.size, 0, none⟩) 1 1] rfl hsee rfl (by simp [Value.oneCell']) (by unfold maxLen; omega) (by omega) ?_; intro v' w1 HO4 hgr hbl; obtain ⟨A4, c4, e4, _, _, _⟩ := HO4.seen List.mem_cons_self; (simp only at e4); subst e4; have hb4 := boxed_of HO4 (List.mem_cons_of_mem _ (List.mem_cons_of_mem _ List.mem_cons_self)); have hc4 := hb4.cell; have hf4 := hb4.frozen)
      have HO5 := (HO4.perm ((List.perm_append_comm (l₁ := [_, _]) (l₂ := [_, _])).append_right rs)).setBox (.slice A4 (ys.length + 1) c4)
      have HO6 : Owns w.heap.size (bxRow (w.heap.size + 1 + 1) 118 (.slice A4 (ys ++ [((xn, some ⟨W.heap.size, 0, none⟩, 1, 1) : Hd)]).length c4) :: bxRow (w.heap.size + 1 + 1 + 1) 23 (.slice A zs.length cap) :: hRow (.slice A4 (ys ++ [((xn, some ⟨W.heap.size, 0, none⟩, 1, 1) : Hd)]).length c4) (ys ++ [((xn, some ⟨W.heap.size, 0, none⟩, 1, 1) : Hd)]) :: symRow (xn, some ⟨W.heap.size, 0, none⟩, 1, 1) [xi] :: rs) (w1.setCell ⟨w.heap.size + 1 + 1, 0, none⟩ (.slice A4 (ys.length + 1) c4)) := by
        rw [← hRow_snoc, List.length_append]
        exact HO5
      have hR6 : Rowed (symRow (xn, some ⟨W.heap.size, 0, none⟩, 1, 1) [xi] :: rs) (sing (pre ++ [(xi, xn)])) (ys ++ [((xn, some ⟨W.heap.size, 0, none⟩, 1, 1) : Hd)]) := by
        rw [sing_yes pre (by simpa using hx)]
        exact HR.out.snoc _ (xn.toNat, [xi]) (by simp; omega) rfl
      have hbw : Below w.heap.size W (w1.setCell ⟨w.heap.size + 1 + 1, 0, none⟩ (.slice A4 (ys.length + 1) c4)) :=
        (((((Below.refl _ W).alloc hB.size _).alloc (by have := hB.size; simp; omega) _).trans hbl).setCell (by simp; omega) _)
      refine ⟨?_, ⟨hbw, ?_⟩, ⟨⟨A4, c4, _, _, HO6, hR6⟩, hB.trans hbw⟩⟩
      · refine KeepsOthers.from ?_ _
        exact (((KeepsOthers.alloc W _).trans (KeepsOthers.alloc _ _)).trans (KeepsOthers.of_grownBy hgr (row_cells HO3.out.head))).trans (KeepsOthers.setCell _ _ _)
      · exact (boxed_of HO6 (List.mem_cons_of_mem _ List.mem_cons_self)).trans hsx.symm
    · gi_wp2
      exact ⟨KeepsFrom.refl _ _, KpB.refl _ _ _, ⟨⟨Av, cv, ys, rs, HO, by rw [sing_no pre (by simpa using hx)]; exact HR.out⟩, hB⟩⟩
  case done =>
    rintro D ys W hD rfl ⟨⟨Av, cv, ys, rs, HO, hR⟩, hB⟩ hK
    have hc := (boxed_of HO List.mem_cons_self).cell
    gi_wp2
    refine ⟨by simp, .inl ⟨_, _, rfl, run_takeDeferred hK, ?_⟩⟩
    refine ⟨_, results_tmp rfl _ _ _, ys, rs, _, rfl, ?_, hR, hB.trans (belowK_b (w := w) (Nat.le_refl _) W D _ _ (by simp at hD; omega) hK rfl rfl)⟩
    exact (HO.tail.tail).turn (grownBy_putObj' _ _ _) (fun r e => by injection e with e; subst e; exact ⟨_, hK, rfl⟩)
  case stop =>
    rintro D c pre W _ _ h _
    exact h.elim
theorem singles_any (A : Option Addr) (cap G : Nat) (zs : List Int) (w : World) (hs : Seen w G A (ints .i64 zs)) (hG : G ≤ w.heap.size) (hl : zs.length ≤ 1024) :
    Calls Try.prog 58 #[.slice A zs.length cap] w fun e w' => ∃ ys rs v, e = .returned v ∧ Owns w.heap.size (hRow v ys :: rs) w' ∧ Rowed rs (sing (backTo zs 0)) ys ∧ Below w.heap.size w w' :=
  callsIn_wide.1 (singles_in Fence.wide 3 trivial trivial trivial rfl (Nat.le_refl _) A cap G zs w hs hG hl)
end Go.Proofs.Ytddkhkpdbjjboaa

/- slices.insertionSortCmpFunc over bundles: its contract. -/
namespace Go.Proofs.Ytddkhkpdbjjboaa
open Go.Shelf Go.RowKit Go.Lib Go.Sort
set_option linter.unusedVariables false
set_option linter.unusedSimpArgs false
set_option maxRecDepth 100000

theorem mixedH : Try.prog.follows .mixedOrders = true := by kernel_rfl
set_option maxHeartbeats 4000000 in
set_option maxRecDepth 1000000 in
theorem insertion_any (blk off cap a b : Nat) (d0 d : Array Hd) (w0 w : World) (R : RowK encH 2 w0 blk off d0) (hs : d0.size = d.size) (S : SWK encH 2 w0 blk off d w) (hab : a ≤ b) (hb : b ≤ d.size) (hsz : d.size < 4611686018427387904) :
    Calls Try.prog 112 #[.slice (some ⟨blk, off, none⟩) d.size cap, .int .i64 a, .int .i64 b, .func (.func 82) #[] #[]] w fun e w' => e = .returned (.tuple #[]) ∧ SWK encH 2 w0 blk off (insertionSort (ltOf cfH) d a b) w' := by
  have mixed := mixedH
  have eg := entersH
  have S0 : Aside (SWK encH 2 w0 blk off d w) := S
  clear S
  go_enter Try.func112, Try.ntmps112
  go_wp2
  go_loopg [8] (b - a) (fun g1 vi wr => ∃ (i : Nat) (dk : Array Hd), vi = .int .i64 i ∧ a < i ∧ i ≤ b + 1 ∧ b + 1 - i ≤ g1 + 1 ∧ dk.size = d.size ∧ Aside (SWK encH 2 w0 blk off dk wr) ∧ Hid (insOuter (ltOf cfH) a b i dk = insOuter (ltOf cfH) a b (a + 1) d))
  case atStart => exact ⟨a + 1, d, by go_num, by omega, by omega, by omega, rfl, S0, rfl⟩
  case round =>
    clear S0
    obtain ⟨i, dk, rfl, hai, hib, hg1, hsk, S1, HO⟩ := hrel
    by_cases hlt : i < b
    · have hltz : (i : Int) < (b : Int) := by omega
      go_wp2
      go_loopg [9] i (fun g2 vj wr2 => ∃ (j : Nat) (dj : Array Hd), vj = .int .i64 j ∧ a ≤ j ∧ j ≤ i ∧ j ≤ g2 ∧ dj.size = d.size ∧ Aside (SWK encH 2 w0 blk off dj wr2) ∧ Hid (insInner (ltOf cfH) a j dj = insInner (ltOf cfH) a i dk))
      case atStart => exact ⟨i, dk, rfl, by omega, Nat.le_refl _, Nat.le_refl _, hsk, S1, rfl⟩
      case round =>
        clear S1
        obtain ⟨j, dj, rfl, haj, hji, hg2, hsj, S1, HI⟩ := hrel
        have OUT : Aside ((j ≤ a ∨ ltOf cfH dj[j]! dj[j - 1]! = false) → Hid (insOuter (ltOf cfH) a b (i + 1) dj = insOuter (ltOf cfH) a b (a + 1) d)) := fun hs => by
          show _ = _
          rw [← HO.out, insOuter_go _ _ _ _ _ hlt, ← HI.out, insInner_stop _ _ _ _ hs]
        by_cases hja : a < j
        · have hjaz : (a : Int) < (j : Int) := by omega
          obtain ⟨jp, rfl⟩ : ∃ jp, j = jp + 1 := ⟨j - 1, by omega⟩
          have hwp : IntKind.i64.wrap (jp : Int) = (jp : Int) := by rw [IntKind.wrap_i64]; omega
          have jz : (jp : Int) + 1 < (d.size : Int) := by omega
          have jz1 : (jp : Int) < (d.size : Int) := by omega
          have hjaz' : (a : Int) < (jp : Int) + 1 := by omega
          have p0 : (0 : Int) ≤ (jp : Int) + 1 := by omega
          have e0 : ((jp : Int) + 1).toNat = jp + 1 := by omega
          obtain ⟨x, hx⟩ : ∃ x, dj[jp + 1]! = x := ⟨_, rfl⟩
          obtain ⟨y, hy⟩ : ∃ y, dj[jp]! = y := ⟨_, rfl⟩
          have cx0 := fun n os => (swk_c0 (S1.out.grown n os) R (by omega) (by omega) hx).1
          have cx1 := fun n os => (swk_c1 (S1.out.grown n os) R (by omega) (by omega) hx).1
          have cy0 := fun n os => (swk_c0 (S1.out.grown n os) R (by omega) (by omega) hy).1
          have cy1 := fun n os => (swk_c1 (S1.out.grown n os) R (by omega) (by omega) hy).1
          have hcmp := S1.out.cmp (cmpLaysH blk off d0.size w0) (by omega) x y
          have hcf := cfH_neg x y
          have Hcf := veil hcf; clear hcf
          have Hx := veil hx; have Hy := veil hy; clear hx hy
          obtain ⟨x1, xA, xn, xc⟩ := x
          obtain ⟨y1, yA, yn, yc⟩ := y
          generalize cfH (x1, xA, xn, xc) (y1, yA, yn, yc) = r at hcmp Hcf
          simp only [encH, Array.append_empty] at cx0 cx1 cy0 cy1 hcmp
          go_wp2_with fail
          go_quiet_grown (first | (go_at_fn 82; refine Calls.grown_of (hcmp _ _)))
          have S2 : Aside (SWK encH 2 w0 blk off dj (grow (wr.drewN nq) osq)) := S1.out.grown nq osq
          clear cx0 cx1 cy0 cy1 hcmp S1
          generalize grow (wr.drewN nq) osq = w2 at S2 ⊢
          clear nq osq
          by_cases hlv : r < 0
          · have hlr : x1 < y1 := Hcf.out.1 hlv
            obtain ⟨bx0, fx0⟩ := swk_c0 S2.out R (by omega) (by omega) Hx.out
            obtain ⟨bx1, fx1⟩ := swk_c1 S2.out R (by omega) (by omega) Hx.out
            obtain ⟨by0, fy0⟩ := swk_c0 S2.out R (by omega) (by omega) Hy.out
            obtain ⟨by1, fy1⟩ := swk_c1 S2.out R (by omega) (by omega) Hy.out
            have S4 := swk_swap S2.out R (jp + 1) jp (by omega) (by omega) _ _ Hx.out Hy.out
            clear S2
            go_wp2_with fail
            go_big_region_o
            all_goals go_wp2
            go_roundg jp
            case measure => omega
            case rel =>
              refine ⟨jp, swp dj (jp + 1) jp, rfl, by omega, by omega, Nat.le_refl _, by rw [size_swp]; exact hsj, S4, (show Hid _ from ?_)⟩
              show _ = _
              have := insInner_go (ltOf cfH) a (jp + 1) dj hja (by simp only [Nat.add_sub_cancel]; rw [Hx.out, Hy.out, ltH]; exact decide_eq_true hlr)
              simp only [Nat.add_sub_cancel] at this
              rw [← HI.out, this]
          · have hlr : ¬ x1 < y1 := fun h => hlv (Hcf.out.2 h)
            go_wp2
            go_roundg (b - (i + 1))
            case measure => omega
            case rel => exact ⟨i + 1, dj, by go_num, by omega, by omega, by omega, hsj, S2, OUT.out (Or.inr (by simp only [Nat.add_sub_cancel]; rw [Hx.out, Hy.out, ltH]; exact decide_eq_false (by simp only; omega)))⟩
        · have hjaz : decide ((j : Int) > (a : Int)) = false := decide_eq_false (by omega)
          have hjaz' : ¬ (a : Int) < (j : Int) := by omega
          go_wp2_with fail
          go_big_region_o
          all_goals go_wp2
          go_roundg (b - (i + 1))
          case measure => omega
          case rel => exact ⟨i + 1, dj, by go_num, by omega, by omega, by omega, hsj, S1.out.drew, OUT.out (Or.inl (by omega))⟩
    · have hltz : ¬ (i : Int) < (b : Int) := by omega
      go_wp2
      go_end0
      exact ⟨rfl, by unfold Sort.insertionSort; rw [← HO.out, insOuter_stop _ _ _ _ _ hlt]; exact S1.out⟩
end Go.Proofs.Ytddkhkpdbjjboaa

/- slices.swapRangeCmpFunc and slices.rotateCmpFunc over bundles: their contracts. -/
namespace Go.Proofs.Ytddkhkpdbjjboaa
open Go.Shelf Go.RowKit Go.Lib Go.Sort
set_option linter.unusedVariables false
set_option linter.unusedSimpArgs false
set_option maxRecDepth 100000

set_option maxHeartbeats 4000000 in
set_option maxRecDepth 1000000 in
theorem swapRange_any (blk off cap a b n : Nat) (d0 d : Array Hd) (w0 w : World) (R : RowK encH 2 w0 blk off d0) (hs : d0.size = d.size) (S : SWK encH 2 w0 blk off d w) (hab : a + n ≤ b) (hb : b + n ≤ d.size) (hsz : d.size < 4611686018427387904) :
    Calls Try.prog 120 #[.slice (some ⟨blk, off, none⟩) d.size cap, .int .i64 a, .int .i64 b, .int .i64 n, .func (.func 82) #[] #[]] w fun e w' => e = .returned (.tuple #[]) ∧ SWK encH 2 w0 blk off (sw d a b n) w' := by
  have mixed := mixedH
  have S0 : Aside (SWK encH 2 w0 blk off d w) := S
  clear S
  go_enter Try.func120, Try.ntmps120
  go_wp2
  go_loopg [10] n (fun g1 vi wr => ∃ i : Nat, vi = .int .i64 i ∧ i ≤ n ∧ n - i = g1 ∧ Aside (SWK encH 2 w0 blk off (sw d a b i) wr))
  case atStart => exact ⟨0, rfl, Nat.zero_le _, rfl, S0⟩
  case round =>
    clear S0
    obtain ⟨i, rfl, hin, rfl, S1⟩ := hrel
    have hds := sw_size d a b i
    by_cases hlt : i < n
    · have hltz : (i : Int) < (n : Int) := by omega
      obtain ⟨x, hx⟩ : ∃ x, (sw d a b i)[a + i]! = x := ⟨_, rfl⟩
      obtain ⟨y, hy⟩ : ∃ y, (sw d a b i)[b + i]! = y := ⟨_, rfl⟩
      obtain ⟨bx0, fx0⟩ := swk_c0 S1.out R (by omega) (by omega) hx
      obtain ⟨bx1, fx1⟩ := swk_c1 S1.out R (by omega) (by omega) hx
      obtain ⟨by0, fy0⟩ := swk_c0 S1.out R (by omega) (by omega) hy
      obtain ⟨by1, fy1⟩ := swk_c1 S1.out R (by omega) (by omega) hy
      have S4 := swk_swap S1.out R (a + i) (b + i) (by omega) (by omega) _ _ hx hy
      have ea : ((a : Int) + (i : Int)).toNat = a + i := by omega
      have pa : (0 : Int) ≤ (a : Int) + (i : Int) := by omega
      have ba : (a : Int) + (i : Int) < (d.size : Int) := by omega
      have ra : IntKind.i64.wrap ((a : Int) + (i : Int)) = (a : Int) + (i : Int) := by rw [IntKind.wrap_i64]; omega
      have eb : ((b : Int) + (i : Int)).toNat = b + i := by omega
      have pb : (0 : Int) ≤ (b : Int) + (i : Int) := by omega
      have bb : (b : Int) + (i : Int) < (d.size : Int) := by omega
      have rb : IntKind.i64.wrap ((b : Int) + (i : Int)) = (b : Int) + (i : Int) := by rw [IntKind.wrap_i64]; omega
      clear S1 hx hy
      have Hds := veil hds; clear hds
      obtain ⟨x1, xA, xn, xc⟩ := x
      obtain ⟨y1, yA, yn, yc⟩ := y
      simp only at bx0 bx1 by0 by1 S4
      go_wp2_with fail
      go_big_region_o
      all_goals go_wp2
      go_roundg (n - (i + 1))
      case measure => omega
      case rel => exact ⟨i + 1, by go_num, by omega, rfl, S4⟩
    · have hltz : ¬ (i : Int) < (n : Int) := by omega
      obtain rfl : i = n := by omega
      go_wp2
      go_end0
      exact ⟨rfl, S1.out⟩

set_option maxHeartbeats 4000000 in
set_option maxRecDepth 1000000 in
theorem rotate_any (blk off cap a m b : Nat) (d0 d : Array Hd) (w0 w : World) (R : RowK encH 2 w0 blk off d0) (hs : d0.size = d.size) (S : SWK encH 2 w0 blk off d w) (ham : a < m) (hmb : m < b) (hb : b ≤ d.size) (hsz : d.size < 4611686018427387904) :
    Calls Try.prog 117 #[.slice (some ⟨blk, off, none⟩) d.size cap, .int .i64 a, .int .i64 m, .int .i64 b, .func (.func 82) #[] #[]] w fun e w' => e = .returned (.tuple #[]) ∧ ∃ d', PermIn a b d d' ∧ (∀ t, d'[t]! = rg d a m b t) ∧ SWK encH 2 w0 blk off d' w' := by
  have S0 : Aside (SWK encH 2 w0 blk off d w) := S
  clear S
  go_enter Try.func117, Try.ntmps117
  go_wp2
  go_loopg [10, 11] (b - a) (fun g1 vi vj wr => ∃ (i j : Nat) (dk : Array Hd), vi = .int .i64 i ∧ vj = .int .i64 j ∧ 0 < i ∧ 0 < j ∧ i ≤ m - a ∧ j ≤ b - m ∧ i + j = g1 ∧ dk.size = d.size ∧ Aside (SWK encH 2 w0 blk off dk wr) ∧ Hid (PermIn a b d dk ∧ ∀ t, rg dk (m - i) m (m + j) t = rg d a m b t))
  case atStart =>
    refine ⟨m - a, b - m, d, by congr 1; omega, by congr 1; omega, by omega, by omega, by omega, by omega, by omega, rfl, S0, permIn_refl _ _ _, fun t => ?_⟩
    rw [show m - (m - a) = a by omega, show m + (b - m) = b by omega]
  case round =>
    clear S0
    obtain ⟨i, j, dk, rfl, rfl, hi0, hj0, him, hjb, rfl, hsk, S1, HP⟩ := hrel
    by_cases hij : i = j
    · subst hij
      have hc := swapRange_any blk off cap (m - i) m i d0 dk w0 wr R (by omega) S1.out (by omega) (by omega) (by omega)
      rw [hsk, show ((m - i : Nat) : Int) = (m : Int) - (i : Int) by omega] at hc
      have HC := veil hc; clear hc
      go_wp2_with fail
      refine HC.out.mono ?_
      rintro e w1 ⟨rfl, S2⟩
      have S3 : Aside (SWK encH 2 w0 blk off (sw dk (m - i) m i) w1) := S2
      clear S2 HC
      go_wp2
      go_end0
      refine ⟨rfl, _, permIn_trans _ _ _ _ _ HP.out.1 (sw_perm _ _ _ _ _ _ (by omega) (by omega) (by omega) (by omega) (by omega)), fun t => ?_, S3.out⟩
      rw [rg_same _ (by omega) (by omega), HP.out.2 t]
    · by_cases hlt : j < i
      · have hc := swapRange_any blk off cap (m - i) m j d0 dk w0 wr R (by omega) S1.out (by omega) (by omega) (by omega)
        rw [hsk, show ((m - i : Nat) : Int) = (m : Int) - (i : Int) by omega] at hc
        have HC := veil hc; clear hc
        have hltz : (j : Int) < (i : Int) := by omega
        have hne : ((i : Int) != (j : Int)) = true := by simp; omega
        go_wp2_with fail
        refine HC.out.mono ?_
        rintro e w1 ⟨rfl, S2⟩
        have S3 : Aside (SWK encH 2 w0 blk off (sw dk (m - i) m j) w1) := S2
        clear S2 HC
        go_wp2
        go_roundg (i - j + j)
        case measure => omega
        case rel =>
          refine ⟨i - j, j, _, by congr 1; omega, rfl, by omega, hj0, by omega, hjb, rfl, by rw [sw_size]; exact hsk, S3, permIn_trans _ _ _ _ _ HP.out.1 (sw_perm _ _ _ _ _ _ (by omega) (by omega) (by omega) (by omega) (by omega)), fun t => ?_⟩
          rw [rg_more _ hlt hj0 (by omega) (by omega), HP.out.2 t]
      · have hc := swapRange_any blk off cap (m - i) (m + j - i) i d0 dk w0 wr R (by omega) S1.out (by omega) (by omega) (by omega)
        rw [hsk, show ((m - i : Nat) : Int) = (m : Int) - (i : Int) by omega, show ((m + j - i : Nat) : Int) = (m : Int) + (j : Int) - (i : Int) by omega] at hc
        have HC := veil hc; clear hc
        have hltz : ¬ (j : Int) < (i : Int) := by omega
        have hne : ((i : Int) != (j : Int)) = true := by simp; omega
        go_wp2_with fail
        refine HC.out.mono ?_
        rintro e w1 ⟨rfl, S2⟩
        have S3 : Aside (SWK encH 2 w0 blk off (sw dk (m - i) (m + j - i) i) w1) := S2
        clear S2 HC
        go_wp2
        go_roundg (i + (j - i))
        case measure => omega
        case rel =>
          refine ⟨i, j - i, _, rfl, by congr 1; omega, hi0, by omega, him, by omega, rfl, by rw [sw_size]; exact hsk, S3, permIn_trans _ _ _ _ _ HP.out.1 (sw_perm _ _ _ _ _ _ (by omega) (by omega) (by omega) (by omega) (by omega)), fun t => ?_⟩
          rw [rg_less _ (by omega) hi0 (by omega) (by omega), HP.out.2 t]
end Go.Proofs.Ytddkhkpdbjjboaa

/- slices.symMergeCmpFunc over bundles: its contract. -/
namespace Go.Proofs.Ytddkhkpdbjjboaa
open Go.Shelf Go.RowKit Go.Lib Go.Sort
set_option linter.unusedVariables false
set_option linter.unusedSimpArgs false
set_option maxRecDepth 100000

abbrev keyH (x : Hd) : Int := x.1
set_option maxHeartbeats 4000000 in
set_option maxRecDepth 1000000 in
/-- One element ahead. -/
theorem symMerge_one (blk off cap a b : Nat) (d0 d : Array Hd) (w0 w : World) (R : RowK encH 2 w0 blk off d0) (hs : d0.size = d.size) (S : SWK encH 2 w0 blk off d w) (hmb : a + 1 < b) (hb : b ≤ d.size) (hsz : d.size < 4611686018427387904) (hV : SortK keyH (a + 1) b d) :
    Calls Try.prog 113 #[.slice (some ⟨blk, off, none⟩) d.size cap, .int .i64 a, .int .i64 ((a : Int) + 1), .int .i64 b, .func (.func 82) #[] #[]] w fun e w' => e = .returned (.tuple #[]) ∧ ∃ d', PermIn a b d d' ∧ SortK keyH a b d' ∧ SWK encH 2 w0 blk off d' w' := by
  have mixed := mixedH
  have eg := entersH
  have S0 : Aside (SWK encH 2 w0 blk off d w) := S
  have HV := veil hV
  clear S hV
  have ea : ((a : Int) + 1 - (a : Int) == 1) = true := by simp; omega
  go_enter Try.func113, Try.ntmps113
  go_wp2
  go_loopg [10, 11] (b - (a + 1)) (fun g1 vi vj wr => ∃ (i j : Nat), vi = .int .i64 i ∧ vj = .int .i64 j ∧ a + 1 ≤ i ∧ i ≤ j ∧ j ≤ b ∧ j - i ≤ g1 ∧ Aside (SWK encH 2 w0 blk off d wr) ∧ Hid ((∀ h, a + 1 ≤ h → h < i → keyH d[h]! < keyH d[a]!) ∧ ∀ h, j ≤ h → h < b → keyH d[a]! ≤ keyH d[h]!))
  case atStart => exact ⟨a + 1, b, by go_num, rfl, by omega, by omega, by omega, by omega, S0, ⟨fun h _ _ => by omega, fun h _ _ => by omega⟩⟩
  case round =>
    clear S0
    obtain ⟨i, j, rfl, rfl, hai, hij, hjb, hg, S1, HP⟩ := hrel
    by_cases hlt : i < j
    · have hltz : (i : Int) < (j : Int) := by omega
      obtain ⟨h, hh⟩ : ∃ h, h = (i + j) / 2 := ⟨_, rfl⟩
      have e2 : ((i : Int) + (j : Int)) / 2 = (h : Int) := by omega
      have hih : i ≤ h := by omega
      have hhj : h < j := by omega
      have bh : (h : Int) < (d.size : Int) := by omega
      have ba : (a : Int) < (d.size : Int) := by omega
      clear hh
      obtain ⟨x, hx⟩ : ∃ x, d[h]! = x := ⟨_, rfl⟩
      obtain ⟨y, hy⟩ : ∃ y, d[a]! = y := ⟨_, rfl⟩
      have cx0 := fun n os => (swk_c0 (S1.out.grown n os) R (by omega) (by omega) hx).1
      have cx1 := fun n os => (swk_c1 (S1.out.grown n os) R (by omega) (by omega) hx).1
      have cy0 := fun n os => (swk_c0 (S1.out.grown n os) R (by omega) (by omega) hy).1
      have cy1 := fun n os => (swk_c1 (S1.out.grown n os) R (by omega) (by omega) hy).1
      have hcmp := S1.out.cmp (cmpLaysH blk off d0.size w0) (by omega) x y
      have hcf := cfH_neg x y
      have Hcf := veil hcf; clear hcf
      have Hx := veil hx; have Hy := veil hy; clear hx hy
      obtain ⟨x1, xA, xn, xc⟩ := x
      obtain ⟨y1, yA, yn, yc⟩ := y
      generalize cfH (x1, xA, xn, xc) (y1, yA, yn, yc) = r at hcmp Hcf
      simp only [encH, Array.append_empty] at cx0 cx1 cy0 cy1 hcmp
      obtain ⟨bv, hbv⟩ : ∃ bv, decide (r < 0) = bv := ⟨_, rfl⟩
      go_wp2_with fail
      go_quiet_grown (first | (go_at_fn 82; refine Calls.grown_of (hcmp _ _)))
      have S2 : Aside (SWK encH 2 w0 blk off d (grow (wr.drewN nq) osq)) := S1.out.grown nq osq
      clear cx0 cx1 cy0 cy1 hcmp S1
      generalize grow (wr.drewN nq) osq = w2 at S2 ⊢
      clear nq osq
      cases bv with
      | true =>
        have hlr : x1 < y1 := Hcf.out.1 (of_decide_eq_true hbv)
        go_wp2
        go_roundg (j - (h + 1))
        case measure => omega
        case rel =>
          refine ⟨h + 1, j, by go_num, rfl, by omega, by omega, hjb, Nat.le_refl _, S2, ⟨fun k hk1 hk2 => ?_, HP.out.2⟩⟩
          have h1 := HV.out.le (i := k) (j := h) hk1 (by omega) (by omega)
          rw [Hx.out] at h1
          rw [Hy.out]
          simp only [keyH] at h1 ⊢
          omega
      | false =>
        have hlr : ¬ x1 < y1 := fun h => of_decide_eq_false hbv (Hcf.out.2 h)
        go_wp2
        go_roundg (h - i)
        case measure => omega
        case rel =>
          refine ⟨i, h, rfl, rfl, hai, hih, by omega, Nat.le_refl _, S2, ⟨HP.out.1, fun k hk1 hk2 => ?_⟩⟩
          have h1 := HV.out.le (i := h) (j := k) (by omega) hk1 hk2
          rw [Hx.out] at h1
          rw [Hy.out]
          simp only [keyH] at h1 ⊢
          omega
    · obtain rfl : i = j := by omega
      have hltz : ¬ (i : Int) < (i : Int) := by omega
      go_wp2
      go_loopg [13] (i - 1 - a) (fun g2 vk wr2 => ∃ (k : Nat) (dk : Array Hd), vk = .int .i64 k ∧ a ≤ k ∧ k ≤ i - 1 ∧ i - 1 - k = g2 ∧ dk.size = d.size ∧ Aside (SWK encH 2 w0 blk off dk wr2) ∧ Hid (PermIn a b d dk ∧ ∀ t, dk[t]! = rg d a (a + 1) (k + 1) t))
      case atStart => exact ⟨a, d, rfl, Nat.le_refl _, by omega, rfl, rfl, S1, permIn_refl _ _ _, fun t => ((rg_none d).2 (by omega)).symm⟩
      case round =>
        clear S1
        obtain ⟨k, dk, rfl, hak, hki, rfl, hsk, S1, HQ⟩ := hrel
        by_cases hlt2 : k < i - 1
        · have hltz2 : (k : Int) < (i : Int) - 1 := by omega
          have bk : (k : Int) < (d.size : Int) := by omega
          have bk1 : (k : Int) + 1 < (d.size : Int) := by omega
          have pk1 : (0 : Int) ≤ (k : Int) + 1 := by omega
          have ek1 : ((k : Int) + 1).toNat = k + 1 := by omega
          have rk1 : IntKind.i64.wrap ((k : Int) + 1) = (k : Int) + 1 := by rw [IntKind.wrap_i64]; omega
          obtain ⟨x, hx⟩ : ∃ x, dk[k]! = x := ⟨_, rfl⟩
          obtain ⟨y, hy⟩ : ∃ y, dk[k + 1]! = y := ⟨_, rfl⟩
          obtain ⟨bx0, fx0⟩ := swk_c0 S1.out R (by omega) (by omega) hx
          obtain ⟨bx1, fx1⟩ := swk_c1 S1.out R (by omega) (by omega) hx
          obtain ⟨by0, fy0⟩ := swk_c0 S1.out R (by omega) (by omega) hy
          obtain ⟨by1, fy1⟩ := swk_c1 S1.out R (by omega) (by omega) hy
          have S4 := swk_swap S1.out R (k) (k + 1) (by omega) (by omega) _ _ hx hy
          clear S1 hx hy
          obtain ⟨x1, xA, xn, xc⟩ := x
          obtain ⟨y1, yA, yn, yc⟩ := y
          simp only at bx0 bx1 by0 by1 S4
          go_wp2_with fail
          go_big_region_o
          all_goals go_wp2
          go_roundg (i - 1 - (k + 1))
          case measure => omega
          case rel =>
            refine ⟨k + 1, swp dk k (k + 1), by go_num, by omega, by omega, rfl, by rw [size_swp]; exact hsk, S4, permIn_trans _ _ _ _ _ HQ.out.1 (swp_permIn _ _ _ _ _ (by omega) (by omega) (by omega) (by omega) (by omega)), fun t => ?_⟩
            exact rg_up d dk hsk (by omega) hak HQ.out.2
        · obtain rfl : k = i - 1 := by omega
          have hltz2 : ¬ ((i - 1 : Nat) : Int) < (i : Int) - 1 := by omega
          go_wp2
          refine bodyPost_ret (results_none rfl _ _ _) rfl ?_
          refine ⟨rfl, dk, HQ.out.1, sorted_up HV.out hai hjb HP.out.1 HP.out.2 ?_, S1.out⟩
          intro t
          rw [HQ.out.2 t, show i - 1 + 1 = i by omega]
set_option maxHeartbeats 4000000 in
set_option maxRecDepth 1000000 in
/-- One element behind. -/
theorem symMerge_last (blk off cap a m : Nat) (d0 d : Array Hd) (w0 w : World) (R : RowK encH 2 w0 blk off d0) (hs : d0.size = d.size) (S : SWK encH 2 w0 blk off d w) (ham : a + 1 < m) (hb : m + 1 ≤ d.size) (hsz : d.size < 4611686018427387904) (hU : SortK keyH a m d) :
    Calls Try.prog 113 #[.slice (some ⟨blk, off, none⟩) d.size cap, .int .i64 a, .int .i64 m, .int .i64 ((m : Int) + 1), .func (.func 82) #[] #[]] w fun e w' => e = .returned (.tuple #[]) ∧ ∃ d', PermIn a (m + 1) d d' ∧ SortK keyH a (m + 1) d' ∧ SWK encH 2 w0 blk off d' w' := by
  have mixed := mixedH
  have eg := entersH
  have S0 : Aside (SWK encH 2 w0 blk off d w) := S
  have HU := veil hU
  clear S hU
  have ea : ((m : Int) - (a : Int) == 1) = false := by simp; omega
  have eb : ((m : Int) + 1 - (m : Int) == 1) = true := by simp; omega
  go_enter Try.func113, Try.ntmps113
  go_wp2
  go_loopg [14, 15] (m - a) (fun g1 vi vj wr => ∃ (i j : Nat), vi = .int .i64 i ∧ vj = .int .i64 j ∧ a ≤ i ∧ i ≤ j ∧ j ≤ m ∧ j - i ≤ g1 ∧ Aside (SWK encH 2 w0 blk off d wr) ∧ Hid ((∀ h, a ≤ h → h < i → keyH d[h]! ≤ keyH d[m]!) ∧ ∀ h, j ≤ h → h < m → keyH d[m]! < keyH d[h]!))
  case atStart => exact ⟨a, m, rfl, rfl, by omega, by omega, by omega, by omega, S0, ⟨fun h _ _ => by omega, fun h _ _ => by omega⟩⟩
  case round =>
    clear S0
    obtain ⟨i, j, rfl, rfl, hai, hij, hjb, hg, S1, HP⟩ := hrel
    by_cases hlt : i < j
    · have hltz : (i : Int) < (j : Int) := by omega
      obtain ⟨h, hh⟩ : ∃ h, h = (i + j) / 2 := ⟨_, rfl⟩
      have e2 : ((i : Int) + (j : Int)) / 2 = (h : Int) := by omega
      have hih : i ≤ h := by omega
      have hhj : h < j := by omega
      have bh : (h : Int) < (d.size : Int) := by omega
      have ba : (m : Int) < (d.size : Int) := by omega
      clear hh
      obtain ⟨x, hx⟩ : ∃ x, d[m]! = x := ⟨_, rfl⟩
      obtain ⟨y, hy⟩ : ∃ y, d[h]! = y := ⟨_, rfl⟩
      have cx0 := fun n os => (swk_c0 (S1.out.grown n os) R (by omega) (by omega) hx).1
      have cx1 := fun n os => (swk_c1 (S1.out.grown n os) R (by omega) (by omega) hx).1
      have cy0 := fun n os => (swk_c0 (S1.out.grown n os) R (by omega) (by omega) hy).1
      have cy1 := fun n os => (swk_c1 (S1.out.grown n os) R (by omega) (by omega) hy).1
      have hcmp := S1.out.cmp (cmpLaysH blk off d0.size w0) (by omega) x y
      have hcf := cfH_neg x y
      have Hcf := veil hcf; clear hcf
      have Hx := veil hx; have Hy := veil hy; clear hx hy
      obtain ⟨x1, xA, xn, xc⟩ := x
      obtain ⟨y1, yA, yn, yc⟩ := y
      generalize cfH (x1, xA, xn, xc) (y1, yA, yn, yc) = r at hcmp Hcf
      simp only [encH, Array.append_empty] at cx0 cx1 cy0 cy1 hcmp
      obtain ⟨bv, hbv⟩ : ∃ bv, decide (r < 0) = bv := ⟨_, rfl⟩
      go_wp2_with fail
      go_quiet_grown (first | (go_at_fn 82; refine Calls.grown_of (hcmp _ _)))
      have S2 : Aside (SWK encH 2 w0 blk off d (grow (wr.drewN nq) osq)) := S1.out.grown nq osq
      clear cx0 cx1 cy0 cy1 hcmp S1
      generalize grow (wr.drewN nq) osq = w2 at S2 ⊢
      clear nq osq
      cases bv with
      | true =>
        have hlr : x1 < y1 := Hcf.out.1 (of_decide_eq_true hbv)
        go_wp2
        go_roundg (h - i)
        case measure => omega
        case rel =>
          refine ⟨i, h, rfl, rfl, hai, hih, by omega, Nat.le_refl _, S2, ⟨HP.out.1, fun k hk1 hk2 => ?_⟩⟩
          have h1 := HU.out.le (i := h) (j := k) (by omega) hk1 hk2
          rw [Hy.out] at h1
          rw [Hx.out]
          simp only [keyH] at h1 ⊢
          omega
      | false =>
        have hlr : ¬ x1 < y1 := fun h => of_decide_eq_false hbv (Hcf.out.2 h)
        go_wp2
        go_roundg (j - (h + 1))
        case measure => omega
        case rel =>
          refine ⟨h + 1, j, by go_num, rfl, by omega, by omega, hjb, Nat.le_refl _, S2, ⟨fun k hk1 hk2 => ?_, HP.out.2⟩⟩
          have h1 := HU.out.le (i := k) (j := h) hk1 (by omega) (by omega)
          rw [Hy.out] at h1
          rw [Hx.out]
          simp only [keyH] at h1 ⊢
          omega
    · obtain rfl : i = j := by omega
      have hltz : ¬ (i : Int) < (i : Int) := by omega
      go_wp2
      go_loopg [17] (m - i) (fun g2 vk wr2 => ∃ (k : Nat) (dk : Array Hd), vk = .int .i64 k ∧ i ≤ k ∧ k ≤ m ∧ k - i = g2 ∧ dk.size = d.size ∧ Aside (SWK encH 2 w0 blk off dk wr2) ∧ Hid (PermIn a (m + 1) d dk ∧ ∀ t, dk[t]! = rg d k m (m + 1) t))
      case atStart => exact ⟨m, d, rfl, by omega, Nat.le_refl _, rfl, rfl, S1, permIn_refl _ _ _, fun t => (rg_none d).1.symm⟩
      case round =>
        clear S1
        obtain ⟨k, dk, rfl, hik, hkm, rfl, hsk, S1, HQ⟩ := hrel
        by_cases hlt2 : i < k
        · have hltz2 : (i : Int) < (k : Int) := by omega
          obtain ⟨kp, rfl⟩ : ∃ kp, k = kp + 1 := ⟨k - 1, by omega⟩
          have hltz3 : (i : Int) < (kp : Int) + 1 := by omega
          have bk : (kp : Int) < (d.size : Int) := by omega
          have bk1 : (kp : Int) + 1 < (d.size : Int) := by omega
          have pk1 : (0 : Int) ≤ (kp : Int) + 1 := by omega
          have ek1 : ((kp : Int) + 1).toNat = kp + 1 := by omega
          have rk1 : IntKind.i64.wrap (kp : Int) = (kp : Int) := by rw [IntKind.wrap_i64]; omega
          obtain ⟨x, hx⟩ : ∃ x, dk[kp + 1]! = x := ⟨_, rfl⟩
          obtain ⟨y, hy⟩ : ∃ y, dk[kp]! = y := ⟨_, rfl⟩
          obtain ⟨bx0, fx0⟩ := swk_c0 S1.out R (by omega) (by omega) hx
          obtain ⟨bx1, fx1⟩ := swk_c1 S1.out R (by omega) (by omega) hx
          obtain ⟨by0, fy0⟩ := swk_c0 S1.out R (by omega) (by omega) hy
          obtain ⟨by1, fy1⟩ := swk_c1 S1.out R (by omega) (by omega) hy
          have S4 := swk_swap S1.out R (kp + 1) (kp) (by omega) (by omega) _ _ hx hy
          clear S1 hx hy
          obtain ⟨x1, xA, xn, xc⟩ := x
          obtain ⟨y1, yA, yn, yc⟩ := y
          simp only at bx0 bx1 by0 by1 S4
          go_wp2_with fail
          go_big_region_o
          all_goals go_wp2
          go_roundg (kp - i)
          case measure => omega
          case rel =>
            refine ⟨kp, swp dk (kp + 1) kp, rfl, by omega, by omega, rfl, by rw [size_swp]; exact hsk, S4, permIn_trans _ _ _ _ _ HQ.out.1 (swp_permIn _ _ _ _ _ (by omega) (by omega) (by omega) (by omega) (by omega)), fun t => ?_⟩
            have := rg_down d dk (t := t) hsk (by omega) (by omega) hkm HQ.out.2
            simpa using this
        · obtain rfl : k = i := by omega
          have hltz2 : ¬ (k : Int) < (k : Int) := by omega
          go_wp2
          refine bodyPost_ret (results_none rfl _ _ _) rfl ?_
          exact ⟨rfl, dk, HQ.out.1, sorted_down HU.out hai hjb HP.out.1 HP.out.2 HQ.out.2, S1.out⟩
end Go.Proofs.Ytddkhkpdbjjboaa
