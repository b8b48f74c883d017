/- Texts shared by the claims of this seat, in one. -/
import Derived.Test.YtmdjhbkpekepgaaBd3
import Derived.Test.YtmdjhbkpekepgaaBd2
import Derived.Test.YtmdjhbkpekepgaaBd1
import Derived.Great.BuildSlice
import Derived.Deep.Cut
import Derived.Deep.DeepCutAuto
import Derived.Test.YtmdjhbkpekepgaaRows
import Derived.Laws.ResultCell
import Derived.Deep.RegionHeld3
/- The reference's FileCheck: its contract. -/
namespace Go.Proofs.Ytmdjhbkpekepgaa
open Go.RowKit
set_option linter.unusedVariables false
set_option linter.unusedSimpArgs false
set_option maxRecDepth 100000

theorem eFile_bad {f : FileL} (h : badF f) : eFile f = 1 := by unfold eFile; rw [if_pos h]
theorem eFile_tabs {f : FileL} (h : ¬ badF f) (h2 : eTs f.cs f.syms f.cs2 f.syms2 ≠ 0) : eFile f = eTs f.cs f.syms f.cs2 f.syms2 := by unfold eFile; rw [if_neg h, if_pos h2]
theorem eFile_large {f : FileL} (h : ¬ badF f) (h2 : eTs f.cs f.syms f.cs2 f.syms2 = 0) (h3 : 90000 < f.data.length) : eFile f = 2 := by unfold eFile; rw [if_neg h, if_neg (by rw [h2]; decide), if_pos h3]
theorem eFile_ok {f : FileL} (h : ¬ badF f) (h2 : eTs f.cs f.syms f.cs2 f.syms2 = 0) (h3 : ¬ 90000 < f.data.length) : eFile f = 0 := by unfold eFile; rw [if_neg h, if_neg (by rw [h2]; decide), if_neg h3]
set_option maxRecDepth 100000 in
set_option maxHeartbeats 2000000 in
theorem refFileCheck_any (f : FileL) (A : Option Addr) (c : Nat) (A2 : Option Addr) (c2 : Nat) (A3 : Option Addr) (c3 G : Nat) (w : World) (hf : FileIn f A c A2 c2 A3 c3 G w) (hG : G ≤ w.heap.size) :
    Calls Try.prog 10 #[fileV f A c A2 c2 A3 c3] w fun e w' => e = .returned (.int .i64 (eFile f)) ∧ Below w.heap.size w w' := by
  have hb0 := below1 w (.cells (fileCells f A c A2 c2 A3 c3).toArray 32)
  have hz0 : (w.alloc (.cells (fileCells f A c A2 c2 A3 c3).toArray 32)).heap.size = w.heap.size + 1 := by simp
  have hat := fileAt_of hf.form (range_new w (fileCells f A c A2 c2 A3 c3) 32)
  have HC := veil (fun W (h : FileIn f A c A2 c2 A3 c3 G W) hG => tablesCheck_any f.cs f.syms A c f.cs2 f.syms2 A2 c2 G W h.form.cs h.max h.cap h.bnd h.see h.form.cs2 h.max2 h.cap2 h.bnd2 h.see2 hG)
  have HW := veil (fun W => bwithin_any f.q 1 255 W hf.form.q)
  have H1 := veil (@eFile_bad f)
  have H2 := veil (@eFile_tabs f)
  have H3 := veil (@eFile_large f)
  have H4 := veil (@eFile_ok f)
  have HB : Hid (badF f ↔ f.wide < 1 ∨ 64 < f.wide ∨ f.high < 1 ∨ 64 < f.high ∨ (f.parts ≠ 1 ∧ f.parts ≠ 3) ∨ f.every < 0 ∨ 100 < f.every ∨ inB 1 255 f.q = false) := Iff.rfl
  have Hq : Hid ((ints .i64 f.q).length = 64) := by show _ = _; rw [ints_length, hf.form.q]
  have Ht : Hid ((tabsCells f.cs A f.syms.length c f.cs2 A2 f.syms2.length c2).length = 34) := by show _ = _; unfold tabsCells; rw [List.length_append, tabCells_length hf.form.cs, tabCells_length hf.form.cs2]
  have Hf := veil hf
  clear hf
  obtain ⟨k1, k2, k3, hq, ht, k4, k5⟩ := hat
  unfold fileV
  unfold tabsV at HC
  unfold blkV at HW
  generalize fileCells f A c A2 c2 A3 c3 = zs at *
  generalize tabsCells f.cs A f.syms.length c f.cs2 A2 f.syms2.length c2 = ts at *
  generalize ints .i64 f.q = xs at *
  generalize inB 1 255 f.q = qb at *
  generalize eTs f.cs f.syms f.cs2 f.syms2 = et at *
  generalize eFile f = E at *
  generalize f.wide = wide at *
  generalize f.high = high at *
  generalize f.parts = parts at *
  generalize f.every = every at *
  go_enter Try.func10, Try.ntmps10
  go_wp2_with fail
  by_cases b1 : wide < 1 ∨ 64 < wide
  · refine (out_yes wide 1 64 b1 _).mono ?_
    rintro e _ ⟨rfl, rfl⟩
    have hE := H1.out (HB.out.2 (by omega))
    subst hE
    go_wp2
    go_ret
    exact ⟨rfl, hb0⟩
  refine (out_no wide 1 64 (by omega) _).mono ?_
  rintro e _ ⟨rfl, rfl⟩
  go_wp2_with fail
  by_cases b2 : high < 1 ∨ 64 < high
  · refine (out_yes high 1 64 b2 _).mono ?_
    rintro e _ ⟨rfl, rfl⟩
    have hE := H1.out (HB.out.2 (by omega))
    subst hE
    go_wp2
    go_ret
    exact ⟨rfl, hb0⟩
  refine (out_no high 1 64 (by omega) _).mono ?_
  rintro e _ ⟨rfl, rfl⟩
  by_cases bp : parts ≠ 1 ∧ parts ≠ 3
  · have hE := H1.out (HB.out.2 (by omega))
    subst hE
    have n1 := bp.1
    have n3 := bp.2
    have HX := veil bp
    clear bp
    have d1 : (parts != 1) = true := by simpa using n1
    have d3 : (parts != 3) = true := by simpa using n3
    clear n1 n3
    go_wp2
    go_ret
    exact ⟨rfl, hb0⟩
  have g13 : parts = 1 ∨ parts = 3 := by omega
  have HX := veil bp
  clear bp
  rcases g13 with rfl | rfl
  all_goals
    go_wp2_with fail
    by_cases b5 : every < 0 ∨ 100 < every
    · refine (out_yes every 0 100 b5 _).mono ?_
      rintro e _ ⟨rfl, rfl⟩
      have hE := H1.out (HB.out.2 (by omega))
      subst hE
      go_wp2
      go_ret
      exact ⟨rfl, hb0⟩
    refine (out_no every 0 100 (by omega) _).mono ?_
    rintro e _ ⟨rfl, rfl⟩
    go_wp2_with (first
      | (refine wpList_load_long rfl 23 (.tmp 28) rfl w.heap.size 3 rfl xs _ (by simpa using hq) Try.underlying23 rfl (info_blkn Hq.out) ?_)
      | fail)
    refine (HW.out _).mono ?_
    rintro e w1 ⟨rfl, hb1⟩
    have hbw := hb0.trans (hb1.mono (by rw [hz0]; omega))
    have ht' := range_below ht hb1 (by rw [hz0]; omega)
    have k5' := (hb1.cell (show w.heap.size < _ by rw [hz0]; omega)).trans k5
    have hz1 : w.heap.size + 1 ≤ w1.heap.size := by have := hb1.size; omega
    clear hq ht k1 k2 k3 k4 k5 hb1
    cases qb with
    | false =>
      have hE := H1.out (HB.out.2 (by simp))
      subst hE
      go_wp2
      go_ret
      exact ⟨rfl, hbw⟩
    | true =>
      have hnb : ¬ badF f := fun h => by have := HB.out.1 h; simp at this; omega
      go_wp2_with (first
        | (refine wpList_load_mid rfl 29 (.tmp 33) rfl w.heap.size 67 rfl ts _ (by simpa using ht') Try.underlying29 rfl (by rw [Ht.out]; kernel_rfl) ?_)
        | fail)
      refine (HC.out w1 (Hf.out.below hbw (by omega)) (by omega)).mono ?_
      rintro e w2 ⟨rfl, hb2⟩
      have hbf := hbw.trans (hb2.mono (by omega))
      have k6 := (hb2.cell (show w.heap.size < _ by omega)).trans k5'
      clear k5' hb2 HC HW ht'
      by_cases h0 : et = 0
      · subst h0
        by_cases h1 : 90000 < f.data.length
        · have hE := H3.out hnb rfl h1
          subst hE
          have h2 : (90000 : Int) < f.data.length := by omega
          go_wp2
          go_ret
          exact ⟨rfl, hbf⟩
        · have hE := H4.out hnb rfl h1
          subst hE
          have h2 : ¬ (90000 : Int) < f.data.length := by omega
          go_wp2
          go_ret
          exact ⟨rfl, hbf⟩
      · have hE := H2.out hnb h0
        subst hE
        have hne : (E != 0) = true := by simpa using h0
        clear h0
        go_wp2
        go_ret
        exact ⟨rfl, hbf⟩
end Go.Proofs.Ytmdjhbkpekepgaa

/- A slice of two tables, built; a row just laid. -/
namespace Go.Proofs.Ytmdjhbkpekepgaa
open Go.RowKit
set_option linter.unusedVariables false
set_option linter.unusedSimpArgs false
set_option maxRecDepth 100000

/-- What was just laid is a row of one's own. -/
theorem laid_own (w : World) (e : TypeId) (size n : Nat) (xs : List Value) (hl : xs.length = n * size) (hm : n ≤ maxLen) : Owns w.heap.size [⟨e, size, .slice (some ⟨w.heap.size, 0, none⟩) n n, n, xs⟩] (w.alloc (.cells xs.toArray e)) := by
  refine ⟨by simp, fun x hx => ?_, List.pairwise_singleton _ _⟩
  rw [List.mem_singleton.1 hx]
  refine ⟨hl, .inr ⟨w.heap.size, n, xs.toArray, rfl, Nat.le_refl _, heap_alloc_new w _, Nat.le_refl _, hm, by simpa using hl, ?_⟩⟩
  show xs.toArray.toList.take (n * size) = xs
  rw [← hl]; simp
theorem fill_tabs (xs ys : List Value) (hx : xs.length = 17) (hy : ys.length = 17) (base : Array Value) (hb : base.size = 34) : Instr.fill (fun i => some (i * 17, 17)) base [(0, .agg xs.toArray), (1, .agg ys.toArray)] = some (xs ++ ys).toArray := by
  obtain ⟨r, h1, h2, h3⟩ := Great.fill_dense (s := 17) (by omega) [.agg xs.toArray, .agg ys.toArray] 0 base (by
    intro v hv
    simp only [List.mem_cons, List.not_mem_nil, or_false] at hv
    rcases hv with rfl | rfl
    · simpa [Value.cells] using hx
    · simpa [Value.cells] using hy) (by rw [hb]; simp)
  have e : (([Value.agg xs.toArray, .agg ys.toArray].zipIdx 0).map fun x => (x.2, x.1)) = [(0, .agg xs.toArray), (1, .agg ys.toArray)] := rfl
  rw [e] at h1
  rw [h1]
  congr 1
  apply Array.ext_getElem?
  intro k
  rw [h3 k]
  by_cases hk : k < 34
  · rw [if_pos (by simp; omega)]
    by_cases h17 : k < 17
    · rw [show k / 17 = 0 by omega, show k % 17 = k by omega]
      simp [Value.cells, List.getElem?_append_left (show k < xs.length by omega)]
    · rw [show k / 17 = 1 by omega, show k % 17 = k - 17 by omega]
      simp [Value.cells, List.getElem?_append_right (show xs.length ≤ k by omega), hx]
  · rw [if_neg (by simp; omega), Array.getElem?_eq_none (by omega), Array.getElem?_eq_none (by simp; omega)]
theorem wpList_store_newK {P : Program} {ops : Array Oper} {rest : List Oper} {o : Oper} {a : Act} {Q : Exit → Act → World → Prop} (w0 : World) (n : Nat) (hn : w0.heap.size = n) (hgd : o.guard = none) (t : TypeId) (x y : Operand) (ho : o.op = .store t x y) (c : Array Value) (c' : List Value)
    (hx : a.eval x = .pointer (some ⟨n, 0, none⟩)) (hy : a.eval y = .agg c'.toArray) (hi : (P.info? t).map (·.size) = some c'.length) (hsz : c.size = c'.length) (h1 : ∀ u ∈ c', u.oneCell' = true)
    (h : wpList P ops Q rest (a.put o.dst undef) (w0.alloc (.cells c'.toArray t))) : wpList P ops Q (o :: rest) a (w0.alloc (.cells c t)) := by
  subst hn
  exact wpList_store_new w0 hgd t x y ho c c' hx hy hi hsz h1 h
theorem zero_tab : (Try.prog.info? 27).map (fun i => (i.zero, i.size, i.bytes)) = some (some (.agg #[.int .i64 0, .int .i64 0, .int .i64 0, .int .i64 0, .int .i64 0, .int .i64 0, .int .i64 0, .int .i64 0, .int .i64 0, .int .i64 0, .int .i64 0, .int .i64 0, .int .i64 0, .int .i64 0, .int .i64 0, .int .i64 0, .slice none 0 0]), 17, 152) := by kernel_rfl
/-- In a walk: a slice of two tables. -/
theorem wpList_buildTabs {ops : Array Oper} {rest : List Oper} {o : Oper} {a : Act} {w : World} {Q : Exit → Act → World → Prop} (hg : o.guard = none) (x y : Operand) (ho : o.op = .buildSlice 56 2 #[(0, x), (1, y)]) (xs ys : List Value) (hx : a.eval x = .agg xs.toArray) (hy : a.eval y = .agg ys.toArray) (hlx : xs.length = 17) (hly : ys.length = 17)
    (h : wpList Try.prog ops Q rest (a.put o.dst (.slice (some ⟨w.heap.size, 0, none⟩) 2 2)) (w.alloc (.cells (xs ++ ys).toArray 27))) : wpList Try.prog ops Q (o :: rest) a w := by
  obtain ⟨i0, hi, hz0, hz1, hz2⟩ := info_parts zero_tab
  refine wpList_buildSlice hg 56 27 2 #[(0, x), (1, y)] ho (xs ++ ys).toArray i0 _ Try.underlying56 hi hz0 (by rw [hz1]; omega) (by rw [hz1]; omega) ?_ h
  have e : (#[(0, x), (1, y)].map fun (i, x) => (i, a.eval x)).toList = [(0, .agg xs.toArray), (1, .agg ys.toArray)] := by simp [hx, hy]
  rw [e, hz1]
  exact fill_tabs xs ys hlx hly _ (by simp)
end Go.Proofs.Ytmdjhbkpekepgaa

/- The laws' zigged: the order begins as the document says. -/
namespace Go.Proofs.Ytmdjhbkpekepgaa
open Go.RowKit
set_option linter.unusedVariables false
set_option linter.unusedSimpArgs false
set_option maxRecDepth 100000

theorem zz_form {w : World} {B g c : Nat} {rs : List Row} (h : Owns B (intRow 3 .i64 (.slice (some ⟨g, 0, none⟩) 64 c) zz :: rs) w) : Seen w w.heap.size (some ⟨g, 0, none⟩) (ints .i64 zz) ∧ 64 ≤ c ∧ c ≤ maxLen := by
  obtain ⟨A, c', e, hs, h1, h2⟩ := h.seen (List.mem_cons_self ..)
  simp only [intRow, Value.slice.injEq] at e hs h1
  obtain ⟨e1, e2, e3⟩ := e
  rw [e1, e3]
  exact ⟨hs, by rw [e2]; exact h1, h2⟩
end Go.Proofs.Ytmdjhbkpekepgaa

/- zig.To and zig.From: their contracts. -/
namespace Go.Proofs.Ytmdjhbkpekepgaa
open Go.RowKit
set_option linter.unusedVariables false
set_option linter.unusedSimpArgs false
set_option maxRecDepth 100000

theorem zz_cellK {w : World} {B g : Nat} (h : Seen w B (some ⟨g, 0, none⟩) (ints .i64 zz)) {k : Nat} {x : Int} (hk : zz[k]? = some x) : w.cell? ⟨g, k, none⟩ = some (.int .i64 x) := by
  obtain ⟨g', o, e0, _, hc⟩ := h.cell (ints_at hk)
  injection e0 with e0
  injection e0 with e1 e2
  subst e1 e2
  rwa [Nat.zero_add] at hc
set_option maxHeartbeats 4000000 in
set_option maxRecDepth 100000 in
theorem from_any (cs : List Int) (w : World) (hc : cs.length = 64) :
    Calls Try.prog 42 #[blkV cs] w fun e w' => e = .returned (blkV (fromL cs)) ∧ Below w.heap.size w w' := by
  have HA := veil (order_any (box3 cs w))
  obtain ⟨hb3, HB0, HB1, HB2, hz3⟩ := box3_is cs w
  go_enter Try.func42, Try.ntmps42
  go_wp2_with fail
  refine HA.out.mono ?_
  rintro e w2 ⟨g, c, rfl, HO, hb2⟩
  have h1 := (zz_form HO).1
  rw [hz3] at HO hb2
  have HB0' := HB0.below hb2 (by omega)
  have HB1' := HB1.below hb2 (by omega)
  have HB2' := veil (HB2.below hb2 (by omega))
  have hz2 := hb2.size
  have hbw := hb3.trans (hb2.mono (by omega))
  clear HA HB0 HB1 HB2 hb2 h1 hb3
  go_wp2_with fail
  go_loopg [8] 64 (fun gk i wr => ∃ k : Nat, gk = 64 - k ∧ k ≤ 64 ∧ i = .int .i64 (k : Int) ∧ Hid (Blk wr (w.heap.size + 1 + 1) (ints .i64 (fromK cs k)) 23) ∧ Hid (w2.grownBy wr (some (w.heap.size + 1 + 1))))
  case atStart => exact ⟨0, rfl, by omega, rfl, veil (by rw [fromK_zero]; exact HB2'.out), veil (World.grownBy.refl _ _)⟩
  case round =>
    clear HB2'
    obtain ⟨k, rfl, hk, rfl, HB, HG⟩ := hrel
    have HBX := HB0'.kept HG.out (by simp; omega)
    have HO2 := HO.kept HG.out (by omega)
    have h1 := (zz_form HO2).1
    by_cases hlt : k < 64
    · have hltz : (k : Int) < 64 := by omega
      obtain ⟨⟨n, hn64⟩, hn, _⟩ := zz_at ⟨k, hlt⟩
      simp only at hn
      have hnz : (n : Int) < 64 := by omega
      obtain ⟨x, hx⟩ := some_at (xs := cs) (j := k) (by omega)
      have hcn := zz_cellK h1 hn
      have hcx := HBX.cell (ints_at hx)
      obtain ⟨y, hy⟩ := some_at (xs := fromK cs k) (j := n) (by rw [fromK_length]; omega)
      have hcy := HB.out.cell (ints_at hy)
      have hfy := HB.out.frozen n
      have HB5 : Hid (Blk (wr.setCell ⟨w.heap.size + 1 + 1, n, none⟩ (.int .i64 x)) (w.heap.size + 1 + 1) (ints .i64 (fromK cs (k + 1))) 23) := by
        rw [fromK_next hlt hn hx]
        have := HB.out.set n (.int .i64 x)
        rw [show (ints .i64 (fromK cs k)).set n (.int .i64 x) = ints .i64 ((fromK cs k).set n x) by simp [ints, List.map_set]] at this
        exact this
      have HG5 : Hid (w2.grownBy (wr.setCell ⟨w.heap.size + 1 + 1, n, none⟩ (.int .i64 x)) (some (w.heap.size + 1 + 1))) :=
        HG.out.trans ⟨rfl, rfl, rfl, by simp [World.setCell], fun i _ hi => Below.heap_setCell _ _ _ _ (fun e => hi (by rw [e]))⟩
      clear HB HG HBX HO2 h1 hn hx hy
      go_wp2_with fail
      go_roundg (64 - (k + 1))
      case rel => exact ⟨k + 1, rfl, by omega, by go_num, HB5, HG5⟩
      case measure => omega
    · obtain rfl : k = 64 := by omega
      have HR := HB1'.kept HG.out (by simp)
      have HBr := HB.out
      have Hlen : Hid ((ints .i64 (fromK cs 64)).length = 64) := by show _ = _; rw [ints_length, fromK_length]
      have hone := ints_one (k := .i64) (l := fromK cs 64)
      have hbg : Below w.heap.size w wr := hbw.grown HG.out hbw.size (fun j hj => by injection hj with hj; omega)
      have Hz := veil zeroB_length
      obtain ⟨xs, hxs⟩ : ∃ xs, xs = ints .i64 (fromK cs 64) := ⟨_, rfl⟩
      rw [← hxs] at Hlen hone HBr
      have HX := veil hxs
      generalize zeroB = x0 at *
      clear HB HG HBX HO2 h1 hxs
      go_wp2_with (first
        | (refine wpList_load_mid rfl 23 (.tmp 3) rfl (w.heap.size + 1 + 1) 0 rfl xs _ HBr.range Try.underlying23 rfl (info_blkn Hlen.out) ?_)
        | (refine wpList_store_blk wr rfl 23 (.tmp 2) (.tmp 19) rfl (w.heap.size + 1) x0 xs 23 HR rfl rfl (info_blkn Hlen.out) (by rw [Hlen.out, Hz.out]) hone ?_; intro w5 HB5 hg5)
        | fail)
      refine bodyPost_ret (v := .agg xs.toArray) (results_cell_row rfl _ _ (w.heap.size + 1) 23 xs.toArray (0, 0) _ rfl HB5 Try.underlying23 rfl (by simp only [List.size_toArray]; exact info_blkn Hlen.out)) rfl ⟨by rw [HX.out]; rfl, hbg.grown hg5 hbg.size (fun j hj => by injection hj with hj; omega)⟩
end Go.Proofs.Ytmdjhbkpekepgaa

/- The reference's ZigOrder: the same order. -/
namespace Go.Proofs.Ytmdjhbkpekepgaa
open Go.RowKit
set_option linter.unusedVariables false
set_option linter.unusedSimpArgs false
set_option maxRecDepth 100000

/-- What place j of diagonal s adds. -/
def rowR (s j : Nat) : Int := if s % 2 = 0 then 7 - (j : Int) else (j : Int)
def oneR (s j : Nat) : List Int := if 0 ≤ (s : Int) - rowR s j ∧ (s : Int) - rowR s j ≤ 7 then [8 * rowR s j + ((s : Int) - rowR s j)] else []
def innR (s k : Nat) : List Int := (List.range k).flatMap (oneR s)
def outR (s k : Nat) : List Int := (List.range s).flatMap (fun t => innR t 8) ++ innR s k
theorem outR_all : outR 15 0 = zz := by decide +kernel
theorem outR_next (s : Nat) : outR (s + 1) 0 = outR s 8 := by simp [outR, List.range_succ, innR]
theorem outR_yes {s k : Nat} (h : 0 ≤ (s : Int) - rowR s k ∧ (s : Int) - rowR s k ≤ 7) : outR s (k + 1) = outR s k ++ [8 * rowR s k + ((s : Int) - rowR s k)] := by
  have : oneR s k = [8 * rowR s k + ((s : Int) - rowR s k)] := if_pos h
  simp [outR, innR, List.range_succ, this]
theorem outR_no {s k : Nat} (h : ¬ (0 ≤ (s : Int) - rowR s k ∧ (s : Int) - rowR s k ≤ 7)) : outR s (k + 1) = outR s k := by
  have : oneR s k = [] := if_neg h
  simp [outR, innR, List.range_succ, this]
theorem oneR_length (s k : Nat) : (oneR s k).length ≤ 1 := by unfold oneR; split <;> simp
theorem innR_length (s k : Nat) : (innR s k).length ≤ k := by
  induction k with
  | zero => simp [innR]
  | succ k ih => have := oneR_length s k; simp [innR, List.range_succ] at ih ⊢; omega
theorem outR_length (s k : Nat) : (outR s k).length ≤ 8 * s + k := by
  have h1 := innR_length s k
  have h2 : ((List.range s).flatMap (fun t => innR t 8)).length ≤ 8 * s := by
    clear h1
    induction s with
    | zero => simp
    | succ s ih => have := innR_length s 8; simp [List.range_succ] at ih ⊢; omega
  unfold outR; rw [List.length_append]; omega
set_option maxHeartbeats 4000000 in
set_option maxRecDepth 100000 in
theorem refOrder_any (w : World) :
    Calls Try.prog 31 #[] w fun e w' => ∃ g c, e = .returned (.slice (some ⟨g, 0, none⟩) 64 c) ∧ Owns w.heap.size [intRow 3 .i64 (.slice (some ⟨g, 0, none⟩) 64 c) zz] w' ∧ Below w.heap.size w w' := by
  go_enter Try.func31, Try.ntmps31
  go_wp2
  go_loopg [1, 6] 15 (fun gk v i wr => ∃ s : Nat, gk = 15 - s ∧ s ≤ 15 ∧ i = .int .i64 (s : Int) ∧ Hid (Owns w.heap.size [intRow 3 .i64 v (outR s 0)] wr) ∧ Hid (Below w.heap.size w wr))
  case atStart => exact ⟨0, rfl, by omega, rfl, veil ((Owns.start w).fresh _ _), veil (Below.refl _ _)⟩
  case round =>
    obtain ⟨s, rfl, hs, rfl, HO, HB⟩ := hrel
    by_cases hlt : s < 15
    · have hltz : (s : Int) < 15 := by omega
      go_wp2_with fail
      rename World => W0
      go_loopg [1, 9] 8 (fun gk v i wr => ∃ k : Nat, gk = 8 - k ∧ k ≤ 8 ∧ i = .int .i64 (k : Int) ∧ Hid (Owns w.heap.size [intRow 3 .i64 v (outR s k)] wr) ∧ Hid (Below w.heap.size w wr))
      case atStart => exact ⟨0, rfl, by omega, rfl, HO, HB⟩
      case round =>
        clear HO HB
        obtain ⟨k, rfl, hk, rfl, HO, HB⟩ := hrel
        by_cases hkt : k < 8
        · have hktz : (k : Int) < 8 := by omega
          have hrow : Hid (rowR s k = if s % 2 = 0 then 7 - (k : Int) else (k : Int)) := rfl
          have hrb : 0 ≤ rowR s k ∧ rowR s k ≤ 7 := by unfold rowR; split <;> omega
          have hol := outR_length s k
          have HY := veil (outR_yes (s := s) (k := k))
          have HNo := veil (outR_no (s := s) (k := k))
          generalize outR s k = l at *
          generalize rowR s k = r at *
          by_cases he : s % 2 = 0
          · have het : ((s : Int) % 2 == 0) = true := by simp; omega
            have hez : (s : Int).tmod 2 = 0 := by rw [Int.tmod_eq_emod_of_nonneg (by omega)]; omega
            have hr : r = 7 - (k : Int) := by rw [hrow.out, if_pos he]
            subst hr
            clear hrow
            by_cases hin : 0 ≤ (s : Int) - (7 - (k : Int)) ∧ (s : Int) - (7 - (k : Int)) ≤ 7
            · have HC := veil (out_no ((s : Int) - (7 - (k : Int))) 0 7 hin)
              go_wp2_with fail
              refine (HC.out _).mono ?_
              rintro e w2 ⟨rfl, rfl⟩
              go_wp2_with (first
                | (at_builtin; go_loud (refine wpList_ownI _ rfl (.tmp 24) (.tmp 29) _ rfl w.heap.size 3 .i64 8 elemZ u1 l [] rfl HO.out [_] rfl (by unfold maxLen; simp; omega) (by simp; omega) ?_); intro v4 w4 HO4 hb4 hz4)
                | fail)
              go_roundg (8 - (k + 1))
              case rel => exact ⟨k + 1, rfl, by omega, by go_num, veil (by rw [HY.out hin]; exact HO4), veil (HB.out.trans hb4)⟩
              case measure => omega
            · have HC := veil (out_yes ((s : Int) - (7 - (k : Int))) 0 7 (by omega))
              go_wp2_with fail
              refine (HC.out _).mono ?_
              rintro e w2 ⟨rfl, rfl⟩
              go_wp2_with fail
              go_roundg (8 - (k + 1))
              case rel => exact ⟨k + 1, rfl, by omega, by go_num, veil (by rw [HNo.out hin]; exact HO.out), HB⟩
              case measure => omega
          · have het : ((s : Int) % 2 == 0) = false := by simp; omega
            have hez : ¬ (s : Int).tmod 2 = 0 := by rw [Int.tmod_eq_emod_of_nonneg (by omega)]; omega
            have hr : r = (k : Int) := by rw [hrow.out, if_neg he]
            subst hr
            clear hrow
            by_cases hin : 0 ≤ (s : Int) - (k : Int) ∧ (s : Int) - (k : Int) ≤ 7
            · have HC := veil (out_no ((s : Int) - (k : Int)) 0 7 hin)
              go_wp2_with fail
              refine (HC.out _).mono ?_
              rintro e w2 ⟨rfl, rfl⟩
              go_wp2_with (first
                | (at_builtin; go_loud (refine wpList_ownI _ rfl (.tmp 24) (.tmp 29) _ rfl w.heap.size 3 .i64 8 elemZ u1 l [] rfl HO.out [_] rfl (by unfold maxLen; simp; omega) (by simp; omega) ?_); intro v4 w4 HO4 hb4 hz4)
                | fail)
              go_roundg (8 - (k + 1))
              case rel => exact ⟨k + 1, rfl, by omega, by go_num, veil (by rw [HY.out hin]; exact HO4), veil (HB.out.trans hb4)⟩
              case measure => omega
            · have HC := veil (out_yes ((s : Int) - (k : Int)) 0 7 (by omega))
              go_wp2_with fail
              refine (HC.out _).mono ?_
              rintro e w2 ⟨rfl, rfl⟩
              go_wp2_with fail
              go_roundg (8 - (k + 1))
              case rel => exact ⟨k + 1, rfl, by omega, by go_num, veil (by rw [HNo.out hin]; exact HO.out), HB⟩
              case measure => omega
        · obtain rfl : k = 8 := by omega
          rw [← outR_next] at HO
          go_wp2_with fail
          go_roundg (15 - (s + 1))
          case rel => exact ⟨s + 1, rfl, by omega, by go_num, HO, HB⟩
          case measure => omega
    · obtain rfl : s = 15 := by omega
      rw [outR_all] at HO
      obtain ⟨g, c, rfl⟩ := own_some HO.out (by rw [zz_length]; omega)
      rw [zz_length] at HO
      go_wp2
      go_ret
      exact ⟨g, c, rfl, HO.out, HB.out⟩
end Go.Proofs.Ytmdjhbkpekepgaa

/- The reference's ZigTo and ZigFrom: their contracts. -/
namespace Go.Proofs.Ytmdjhbkpekepgaa
open Go.RowKit
set_option linter.unusedVariables false
set_option linter.unusedSimpArgs false
set_option maxRecDepth 100000

set_option maxHeartbeats 4000000 in
set_option maxRecDepth 100000 in
theorem refTo_any (cs : List Int) (w : World) (hc : cs.length = 64) :
    Calls Try.prog 28 #[blkV cs] w fun e w' => e = .returned (blkV (toL cs)) ∧ Below w.heap.size w w' := by
  have HA := veil (refOrder_any (box3 cs w))
  obtain ⟨hb3, HB0, HB1, HB2, hz3⟩ := box3_is cs w
  go_enter Try.func28, Try.ntmps28
  go_wp2_with fail
  refine HA.out.mono ?_
  rintro e w2 ⟨g, c, rfl, HO, hb2⟩
  have h1 := (zz_form HO).1
  rw [hz3] at HO hb2
  have HB0' := HB0.below hb2 (by omega)
  have HB1' := HB1.below hb2 (by omega)
  have HB2' := veil (HB2.below hb2 (by omega))
  have hz2 := hb2.size
  have hbw := hb3.trans (hb2.mono (by omega))
  clear HA HB0 HB1 HB2 hb2 h1 hb3
  go_wp2_with fail
  go_loopg [8] 64 (fun gk i wr => ∃ k : Nat, gk = 64 - k ∧ k ≤ 64 ∧ i = .int .i64 (k : Int) ∧ Hid (Blk wr (w.heap.size + 1 + 1) (ints .i64 (toK cs k)) 23) ∧ Hid (w2.grownBy wr (some (w.heap.size + 1 + 1))))
  case atStart => exact ⟨0, rfl, by omega, rfl, veil (by rw [toK_zero]; exact HB2'.out), veil (World.grownBy.refl _ _)⟩
  case round =>
    clear HB2'
    obtain ⟨k, rfl, hk, rfl, HB, HG⟩ := hrel
    have HBX := HB0'.kept HG.out (by simp; omega)
    have HO2 := HO.kept HG.out (by omega)
    have h1 := (zz_form HO2).1
    by_cases hlt : k < 64
    · have hltz : (k : Int) < 64 := by omega
      obtain ⟨⟨n, hn64⟩, hn, _⟩ := zz_at ⟨k, hlt⟩
      simp only at hn
      have hnz : (n : Int) < 64 := by omega
      obtain ⟨x, hx⟩ := some_at (xs := cs) (j := n) (by omega)
      have hcn := zz_cellK h1 hn
      have hcx := HBX.cell (ints_at hx)
      obtain ⟨y, hy⟩ := some_at (xs := toK cs k) (j := k) (by rw [toK_length]; omega)
      have hcy := HB.out.cell (ints_at hy)
      have hfy := HB.out.frozen k
      have HB5 : Hid (Blk (wr.setCell ⟨w.heap.size + 1 + 1, k, none⟩ (.int .i64 x)) (w.heap.size + 1 + 1) (ints .i64 (toK cs (k + 1))) 23) := by
        rw [toK_next hlt hn hx]
        have := HB.out.set k (.int .i64 x)
        rw [show (ints .i64 (toK cs k)).set k (.int .i64 x) = ints .i64 ((toK cs k).set k x) by simp [ints, List.map_set]] at this
        exact this
      have HG5 : Hid (w2.grownBy (wr.setCell ⟨w.heap.size + 1 + 1, k, none⟩ (.int .i64 x)) (some (w.heap.size + 1 + 1))) :=
        HG.out.trans ⟨rfl, rfl, rfl, by simp [World.setCell], fun i _ hi => Below.heap_setCell _ _ _ _ (fun e => hi (by rw [e]))⟩
      clear HB HG HBX HO2 h1 hn hx hy
      go_wp2_with fail
      go_roundg (64 - (k + 1))
      case rel => exact ⟨k + 1, rfl, by omega, by go_num, HB5, HG5⟩
      case measure => omega
    · obtain rfl : k = 64 := by omega
      have HR := HB1'.kept HG.out (by simp)
      have HBr := HB.out
      have Hlen : Hid ((ints .i64 (toK cs 64)).length = 64) := by show _ = _; rw [ints_length, toK_length]
      have hone := ints_one (k := .i64) (l := toK cs 64)
      have hbg : Below w.heap.size w wr := hbw.grown HG.out hbw.size (fun j hj => by injection hj with hj; omega)
      have Hz := veil zeroB_length
      obtain ⟨xs, hxs⟩ : ∃ xs, xs = ints .i64 (toK cs 64) := ⟨_, rfl⟩
      rw [← hxs] at Hlen hone HBr
      have HX := veil hxs
      generalize zeroB = x0 at *
      clear HB HG HBX HO2 h1 hxs
      go_wp2_with (first
        | (refine wpList_load_mid rfl 23 (.tmp 3) rfl (w.heap.size + 1 + 1) 0 rfl xs _ HBr.range Try.underlying23 rfl (info_blkn Hlen.out) ?_)
        | (refine wpList_store_blk wr rfl 23 (.tmp 2) (.tmp 19) rfl (w.heap.size + 1) x0 xs 23 HR rfl rfl (info_blkn Hlen.out) (by rw [Hlen.out, Hz.out]) hone ?_; intro w5 HB5 hg5)
        | fail)
      refine bodyPost_ret (v := .agg xs.toArray) (results_cell_row rfl _ _ (w.heap.size + 1) 23 xs.toArray (0, 0) _ rfl HB5 Try.underlying23 rfl (by simp only [List.size_toArray]; exact info_blkn Hlen.out)) rfl ⟨by rw [HX.out]; rfl, hbg.grown hg5 hbg.size (fun j hj => by injection hj with hj; omega)⟩
end Go.Proofs.Ytmdjhbkpekepgaa

/- The reference's FilePack: its contract. -/
namespace Go.Proofs.Ytmdjhbkpekepgaa
open Go.RowKit
set_option linter.unusedVariables false
set_option linter.unusedSimpArgs false
set_option maxRecDepth 100000

theorem w2s_snoc {cs : List Int} {k : Nat} {x : Int} (h : cs[k]? = some x) : w2s (cs.take (k + 1)) = w2s (cs.take k) ++ [x / 256, x % 256] := by rw [take_snoc h, w2s_app]; rfl
theorem w2s_mem {cs : List Int} {x : Int} (h : x ∈ cs) : x / 256 ∈ w2s cs ∧ x % 256 ∈ w2s cs := by
  induction cs with
  | nil => cases h
  | cons y l ih =>
    rcases List.mem_cons.1 h with rfl | h
    · simp [w2s]
    · have := ih h; simp only [w2s, List.mem_cons]; exact ⟨.inr (.inr this.1), .inr (.inr this.2)⟩
/-- Counts and symbols whose bytes they are. -/
structure TabIs (cs syms : List Int) : Prop where
  len : cs.length = 16
  pos : ∀ x ∈ cs, 0 ≤ x ∧ x ≤ 65535
  few : syms.length ≤ 256
  sym : ∀ x ∈ syms, 0 ≤ x ∧ x ≤ 255
theorem tabIs_of {cs syms : List Int} (hl : cs.length = 16) (h : checkErr cs syms = 0) (hb : Bytes (tabB cs syms)) : TabIs cs syms := by
  obtain ⟨g1, g2, g3⟩ := good_counts h
  refine ⟨hl, fun x hx => ?_, g2, fun x hx => hb x (List.mem_append.2 (.inr hx))⟩
  have h1 := hb _ (List.mem_append.2 (.inl (w2s_mem hx).1))
  have h2 := hb _ (List.mem_append.2 (.inl (w2s_mem hx).2))
  have := g3 x hx
  omega
theorem u8_byte {x : Int} (h : 0 ≤ x ∧ x ≤ 255) : IntKind.u8.wrap x = x := by rw [IntKind.wrap_u8]; omega
/-- What a packed file is made of. -/
structure PackIs (f : FileL) : Prop where
  wide : 0 ≤ f.wide ∧ f.wide ≤ 255
  high : 0 ≤ f.high ∧ f.high ≤ 255
  parts : 0 ≤ f.parts ∧ f.parts ≤ 255
  every : 0 ≤ f.every ∧ f.every ≤ 255
  z : ∀ x ∈ toL f.q, 0 ≤ x ∧ x ≤ 255
  t1 : TabIs f.cs f.syms
  t2 : TabIs f.cs2 f.syms2
  data : f.data.length ≤ 90000
theorem packIs_of {f : FileL} (h : f.Form) (h0 : eFile f = 0) (hd : Bytes f.data) : PackIs f := by
  have hb := packF_bytes h h0 hd
  obtain ⟨g0, g1, g2, g3⟩ := eFile_zero h0
  have hm : ∀ x, x ∈ headF f ∨ x ∈ tabB f.cs f.syms ∨ x ∈ tabB f.cs2 f.syms2 → 0 ≤ x ∧ x ≤ 255 := fun x hx => hb x (by
    rw [packF]; simp only [List.mem_append]; rcases hx with hx | hx | hx <;> simp [hx])
  have hh : ∀ x ∈ headF f, 0 ≤ x ∧ x ≤ 255 := fun x hx => hm x (.inl hx)
  exact ⟨hh _ (by simp [headF]), hh _ (by simp [headF]), hh _ (by simp [headF]), hh _ (by simp [headF]), fun x hx => hh x (by simp [headF, hx]), tabIs_of h.cs g1 fun x hx => hm x (.inr (.inl hx)), tabIs_of h.cs2 g2 fun x hx => hm x (.inr (.inr hx)), g3⟩
/-- What stands before the k-th table. -/
def partF (f : FileL) (k : Nat) : List Int := headF f ++ (if k = 0 then [] else if k = 1 then tabB f.cs f.syms else tabB f.cs f.syms ++ tabB f.cs2 f.syms2)
theorem partF_0 (f : FileL) : partF f 0 = headF f := by simp [partF]
theorem partF_next (f : FileL) {k : Nat} (h : k < 2) : partF f (k + 1) = partF f k ++ tabB (sel2 k f.cs f.cs2) (sel2 k f.syms f.syms2) := by
  have : k = 0 ∨ k = 1 := by omega
  rcases this with rfl | rfl
  · simp [partF, sel2]
  · simp [partF, sel2]
theorem partF_2 (f : FileL) : partF f 2 ++ f.data = packF f := by simp [partF, packF]
theorem rowAt {w : World} {B g n : Nat} {e : TypeId} {size : Nat} {xs : List Value} {rs : List Row} (h : Owns B rs w) (hr : (⟨e, size, .slice (some ⟨g, 0, none⟩) n n, n, xs⟩ : Row) ∈ rs) : w.rangeAt g 0 xs := fun j v hv => by
  obtain ⟨A2, c2, e2, hs, _, _⟩ := h.seen hr
  have e' : (Value.slice (some ⟨g, 0, none⟩) n n) = .slice A2 n c2 := e2
  obtain ⟨e3, _⟩ : some (⟨g, 0, none⟩ : Addr) = A2 ∧ n = c2 := by simpa using e'
  obtain ⟨g2, o2, e4, _, hc⟩ := hs.cell hv
  rw [← e3] at e4
  obtain ⟨rfl, rfl⟩ : g = g2 ∧ 0 = o2 := by simpa using e4
  exact hc
abbrev tabRow (g : Nat) (xs : List Value) : Row := ⟨27, 17, .slice (some ⟨g, 0, none⟩) 1 1, 1, xs⟩
set_option maxRecDepth 100000 in
set_option maxHeartbeats 2000000 in
theorem refFilePack_any (f : FileL) (A : Option Addr) (c : Nat) (A2 : Option Addr) (c2 : Nat) (A3 : Option Addr) (c3 G : Nat) (w : World) (hf : FileIn f A c A2 c2 A3 c3 G w) (hG : G ≤ w.heap.size) :
    Calls Try.prog 12 #[fileV f A c A2 c2 A3 c3] w fun e w' => ∃ v, e = .returned (.tuple #[v, .int .i64 (eFile f)]) ∧ Owns w.heap.size [byteRow v (oPack f)] w' ∧ Below w.heap.size w w' := by
  have hlen := fileCells_length hf.form A c A2 c2 A3 c3
  have hb0 := below1 w (.cells (fileCells f A c A2 c2 A3 c3).toArray 32)
  have hz0 : (w.alloc (.cells (fileCells f A c A2 c2 A3 c3).toArray 32)).heap.size = w.heap.size + 1 := by simp
  have hr0 := range_new w (fileCells f A c A2 c2 A3 c3) 32
  have hat := fileAt_of hf.form hr0
  have HC := veil (fun W (h : FileIn f A c A2 c2 A3 c3 G W) hG => refFileCheck_any f A c A2 c2 A3 c3 G W h hG)
  have HZ := veil (fun W => refTo_any f.q W hf.form.q)
  have Hq : Hid ((ints .i64 f.q).length = 64) := by show _ = _; rw [ints_length, hf.form.q]
  have Hzl : Hid ((toL f.q).length = 64) := by show _ = _; rw [toL, toK_length]
  obtain ⟨E, hE⟩ : ∃ E, E = eFile f := ⟨_, rfl⟩
  obtain ⟨O, hO⟩ : ∃ O, O = oPack f := ⟨_, rfl⟩
  rw [← hE, ← hO]
  have HOe : Hid (E ≠ 0 → O = []) := by show _ → _; intro h; rw [hO]; exact if_neg (by rw [← hE]; exact h)
  have HOk : Hid (E = 0 → O = packF f) := by show _ → _; intro h; rw [hO]; exact if_pos (by rw [← hE]; exact h)
  have HPk : Hid (E = 0 → PackIs f) := by show _ → _; intro h; exact packIs_of hf.form (by rw [← hE]; exact h) hf.bytes
  have L1 := veil (tabCells_length (A := A) (n := f.syms.length) (c := c) hf.form.cs)
  have L2 := veil (tabCells_length (A := A2) (n := f.syms2.length) (c := c2) hf.form.cs2)
  have Hf := veil hf
  have Hlen := veil hlen
  have HAt := veil hat
  rw [← hE] at HC
  clear hlen hat hf hE hO
  unfold fileV at HC ⊢
  unfold blkV at HZ
  generalize fileCells f A c A2 c2 A3 c3 = zs at *
  go_enter Try.func12, Try.ntmps12
  go_wp2_with (first
    | (refine wpList_load_mid rfl 32 (.tmp 1) rfl w.heap.size 0 rfl zs _ hr0 Try.underlying32 rfl (by rw [Hlen.out]; kernel_rfl) ?_)
    | fail)
  refine (HC.out _ (Hf.out.below hb0 hG) (by rw [hz0]; omega)).mono ?_
  rintro e w1 ⟨rfl, hb1⟩
  have hz1 := hb1.size
  rw [hz0] at hz1
  have hbw1 := hb0.trans (hb1.mono (by rw [hz0]; omega))
  have HAt1 := veil (HAt.out.below hb1 (by rw [hz0]; omega))
  clear hb0 hb1 hr0 HC HAt
  by_cases h0 : E = 0
  · have hp := HPk.out h0
    have hO := HOk.out h0
    subst h0
    obtain ⟨hat, hhat⟩ : ∃ h : FileAt f A c A2 c2 A3 c3 w1 w.heap.size, h = HAt1.out := ⟨_, rfl⟩
    have k1 := hat.wide; have k2 := hat.high; have k3 := hat.parts; have k4 := hat.every
    have i1 := u8_byte hp.wide; have i2 := u8_byte hp.high; have i3 := u8_byte hp.parts; have i4 := u8_byte hp.every
    have Hp := veil hp
    have HO := veil hO
    have Hhead : Hid (headF f = [77, 90, f.wide, f.high, f.parts, f.every] ++ toL f.q) := rfl
    clear hhat hat hp hO HPk HOk HOe
    generalize f.wide = wide at *
    generalize f.high = high at *
    generalize f.parts = parts at *
    generalize f.every = every at *
    go_upto_region 5 with fail
    obtain ⟨W2, hW2⟩ : ∃ W2, W2 = w1.alloc (.cells #[.int .u8 77, .int .u8 90, .int .u8 wide, .int .u8 high, .int .u8 parts, .int .u8 every] 5) := ⟨_, rfl⟩
    have hO2 : Owns w1.heap.size [byteRow (.slice (some ⟨w1.heap.size, 0, none⟩) 6 6) [77, 90, wide, high, parts, every]] W2 := by
      rw [hW2]; exact laid_own w1 5 1 6 (ints .u8 [77, 90, wide, high, parts, every]) rfl (by unfold maxLen; omega)
    have hb2 : Below w1.heap.size w1 W2 := by rw [hW2]; exact below1 w1 _
    rw [← hW2]
    have hz2 := hb2.size
    have hbw2 := hbw1.trans (hb2.mono (by omega))
    have HAt2 := veil (HAt1.out.below hb2 (by omega))
    have hrq := HAt2.out.q
    have HO2 := veil hO2
    clear hW2 hO2 k1 k2 k3 k4 i1 i2 i3 i4 HAt1
    go_wp2_with (first
      | (refine wpList_load_mid rfl 23 (.tmp 33) rfl w.heap.size 3 rfl (ints .i64 f.q) _ hrq Try.underlying23 rfl (info_blkn Hq.out) ?_)
      | fail)
    refine (HZ.out W2).mono ?_
    rintro e w3 ⟨rfl, hb3⟩
    have hz3 := hb3.size
    have Hzv : Hid ((ints .i64 (toL f.q)).length = 64) := by show _ = _; rw [ints_length, Hzl.out]
    have Hzo : Hid (∀ u ∈ ints .i64 (toL f.q), u.oneCell' = true) := veil ints_one
    have Hzat : Hid (∀ (k : Nat) (x : Int), (toL f.q)[k]? = some x → (ints .i64 (toL f.q))[k]? = some (.int .i64 x)) := fun _ _ h => ints_at h
    have hzm := Hp.out.z
    have Hzm := veil hzm
    have HO3 := veil (HO2.out.below hb3)
    have HAt3 := veil (HAt2.out.below hb3 (by omega))
    have hbw3 := hbw2.trans (hb3.mono (by omega))
    obtain ⟨zl, hzl⟩ : ∃ zl, zl = toL f.q := ⟨_, rfl⟩
    rw [← hzl] at Hzl Hzv Hzo Hzat Hzm Hhead ⊢
    obtain ⟨zv, hzv⟩ : ∃ zv, zv = ints .i64 zl := ⟨_, rfl⟩
    rw [← hzv] at Hzv Hzo Hzat ⊢
    have hrz := range_new w3 zv 23
    clear hzl hzv hzm hrq hb3 HZ HO2 HAt2 hbw2 hb2
    go_wp2_with (first
      | (refine wpList_store_new w3 rfl 23 (.tmp 6) (.tmp 35) rfl _ zv rfl rfl (info_blkn Hzv.out) (by rw [Hzv.out]; rfl) Hzo.out ?_)
      | (refine wpList_load_mid rfl 23 (.tmp 6) rfl w3.heap.size 0 rfl zv _ hrz Try.underlying23 rfl (info_blkn Hzv.out) ?_)
      | fail)
    have hb4 := below1 w3 (.cells zv.toArray 23)
    have HO4 := veil (HO3.out.alloc (.cells zv.toArray 23))
    have HAt4 := veil (HAt3.out.below hb4 (by omega))
    have hbw4 := hbw3.trans (hb4.mono (by omega))
    have hz4 : (w3.alloc (.cells zv.toArray 23)).heap.size = w3.heap.size + 1 := by simp
    obtain ⟨W4, hW4⟩ : ∃ W4, W4 = w3.alloc (.cells zv.toArray 23) := ⟨_, rfl⟩
    rw [← hW4] at HO4 HAt4 hbw4 hz4 ⊢
    obtain ⟨B, hB⟩ : ∃ B, B = w1.heap.size := ⟨_, rfl⟩
    rw [← hB] at HO4
    have HB := veil hB
    have hBw : w.heap.size < B := by omega
    have hBW : B ≤ W4.heap.size := by omega
    have HI0 : Hid ([77, 90, wide, high, parts, every] = [77, 90, wide, high, parts, every] ++ zl.take 0) := by show _ = _; simp
    have Hbw4 := veil hbw4
    have Hbr4 : Hid (Below B W4 W4) := Below.refl _ _
    rw [← hB]
    clear HO3 HAt3 hbw3 hb4 hrz hW4 hB hbw4 Hzo
    go_loopg [5, 8, 37] 64 (fun gk ov nv iv wr => ∃ (k : Nat) (out : List Int), gk = 64 - k ∧ k ≤ 64 ∧ iv = .int .i64 (k : Int) ∧ Hid (out = [77, 90, wide, high, parts, every] ++ zl.take k) ∧ out.length = 6 + k ∧ Hid (Owns B [byteRow ov out] wr) ∧ Hid (Below B W4 wr))
    case atStart => exact ⟨0, _, rfl, by omega, rfl, HI0, rfl, HO4, Hbr4⟩
    case round =>
      clear HI0 Hbr4 HO4
      obtain ⟨k, out, rfl, hk, rfl, HI, hol, HOo, Hbr⟩ := hrel
      by_cases hlt : k < 64
      · have hltz : (k : Int) < 64 := by omega
        obtain ⟨x, hx⟩ := some_at (xs := zl) (j := k) (by rw [Hzl.out]; exact hlt)
        have hxs := Hzat.out _ _ hx
        have hx8 := Hzm.out x (List.mem_of_getElem? hx)
        have i5 := u8_byte hx8
        have HI2 : Hid (out ++ [x] = [77, 90, wide, high, parts, every] ++ zl.take (k + 1)) := by show _ = _; rw [take_snoc hx, HI.out, List.append_assoc]
        clear hx hx8 HI
        go_wp2_with (first
          | (refine wpList_index_arr rfl 23 (.tmp 36) (.tmp 37) rfl 64 3 .i64 Try.underlying23 Try.underlying3 (by kernel_rfl) zv rfl .i64 k rfl (.int .i64 x) hlt hxs ?_)
          | (at_builtin; go_loud (refine wpList_ownI _ rfl (.tmp 40) (.tmp 43) _ rfl B 5 .u8 1 elem_byte u5 out [] rfl HOo.out [x] rfl (by unfold maxLen; simp; omega) (by simp; omega) ?_); intro v6 w6 HO6 hb6 hz6)
          | fail)
        go_roundg (64 - (k + 1))
        case rel => exact ⟨k + 1, out ++ [x], rfl, by omega, by go_num, HI2, by simp; omega, veil HO6, veil (Hbr.out.trans hb6)⟩
        case measure => omega
      · obtain rfl : k = 64 := by omega
        have hh := HI.out
        rw [List.take_of_length_le (by rw [Hzl.out]; omega), ← Hhead.out, ← partF_0] at hh
        have HI0 := veil hh
        clear hh HI hlt
        go_wp2_with fail
        have hO5 : out.length ≤ 70 + 400 * 0 := by omega
        clear hol
        generalize hWW : wr = W5 at HOo Hbr
        clear hWW
        go_loopg [5, 9, 10, 12, 14, 46] 2 (fun gk ov kv tv nv sv iv wr => ∃ (k : Nat) (out : List Int), gk = 2 - k ∧ k ≤ 2 ∧ iv = .int .i64 (k : Int) ∧ Hid (out = partF f k) ∧ out.length ≤ 70 + 400 * k ∧ Hid (Owns B [byteRow ov out] wr) ∧ Hid (Below B W4 wr))
        case atStart => exact ⟨0, out, rfl, by omega, rfl, HI0, hO5, HOo, Hbr⟩
        case round =>
          clear HI0 hO5 HOo Hbr
          obtain ⟨k, out, rfl, hk, rfl, HI, hol, HOo, Hbr⟩ := hrel
          by_cases hlt : k < 2
          · have hltz : (k : Int) < 2 := by omega
            have hnx := partF_next f hlt
            rw [← HI.out] at hnx
            have Hnx := veil hnx
            have hat := HAt4.out.below Hbr.out hBw
            have r1 := range_left hat.tabs
            have r2 := range_right hat.tabs
            rw [L1.out] at r2
            have hti : TabIs (sel2 k f.cs f.cs2) (sel2 k f.syms f.syms2) := by
              unfold sel2; split
              · exact Hp.out.t1
              · exact Hp.out.t2
            have hsee : Seen W4 G (sel2 k A A2) (ints .i64 (sel2 k f.syms f.syms2)) := by
              have h9 := Hf.out.below Hbw4.out hG
              unfold sel2; split
              · exact h9.see
              · exact h9.see2
            have Hti := veil hti; have Hsee := veil hsee; have R1 := veil r1; have R2 := veil r2
            have hk01 : k = 0 ∨ k = 1 := by omega
            clear hnx hat r1 r2 hti hsee HI
            go_upto_region 14 with fail
            go_cut [10] (fun tv wx => ∃ g, tv = .pointer (some ⟨g, 0, none⟩) ∧ Hid (Owns B [byteRow u5 out, tabRow g (tabCells (sel2 k f.cs f.cs2) (sel2 k A A2) (sel2 k f.syms f.syms2).length (sel2 k c c2))] wx) ∧ Hid (Below B W4 wx))
            case first =>
              have hrn := range_new wr (tabCells f.cs A f.syms.length c ++ tabCells f.cs2 A2 f.syms2.length c2) 27
              have n1 := range_left hrn
              have n2 := range_right hrn
              rw [L1.out] at n2
              have HOa := HOo.out.alloc (.cells (tabCells f.cs A f.syms.length c ++ tabCells f.cs2 A2 f.syms2.length c2).toArray 27)
              have hba := below1 wr (.cells (tabCells f.cs A f.syms.length c ++ tabCells f.cs2 A2 f.syms2.length c2).toArray 27)
              have hza : (wr.alloc (.cells (tabCells f.cs A f.syms.length c ++ tabCells f.cs2 A2 f.syms2.length c2).toArray 27)).heap.size = wr.heap.size + 1 := by simp
              have ho1 := laid_own (wr.alloc (.cells (tabCells f.cs A f.syms.length c ++ tabCells f.cs2 A2 f.syms2.length c2).toArray 27)) 27 17 1 (tabCells f.cs A f.syms.length c) L1.out (by unfold maxLen; omega)
              have ho2 := laid_own (wr.alloc (.cells (tabCells f.cs A f.syms.length c ++ tabCells f.cs2 A2 f.syms2.length c2).toArray 27)) 27 17 1 (tabCells f.cs2 A2 f.syms2.length c2) L2.out (by unfold maxLen; omega)
              have hb1 := below1 (wr.alloc (.cells (tabCells f.cs A f.syms.length c ++ tabCells f.cs2 A2 f.syms2.length c2).toArray 27)) (.cells (tabCells f.cs A f.syms.length c).toArray 27)
              have hb2 := below1 (wr.alloc (.cells (tabCells f.cs A f.syms.length c ++ tabCells f.cs2 A2 f.syms2.length c2).toArray 27)) (.cells (tabCells f.cs2 A2 f.syms2.length c2).toArray 27)
              have hbz := Hbr.out.size
              have Hp1 := veil ((HOa.call hb1 ho1).swap)
              have Hp2 := veil ((HOa.call hb2 ho2).swap)
              have Hq1 := veil ((Hbr.out.trans (hba.mono (by omega))).trans (hb1.mono (by omega)))
              have Hq2 := veil ((Hbr.out.trans (hba.mono (by omega))).trans (hb2.mono (by omega)))
              rw [hza] at Hp1 Hp2
              have ho1' := veil (tabCells_one (cs := f.cs) (A := A) (n := f.syms.length) (c := c))
              have ho2' := veil (tabCells_one (cs := f.cs2) (A := A2) (n := f.syms2.length) (c := c2))
              clear HOa hba hb1 hb2 ho1 ho2 hrn
              rcases hk01 with rfl | rfl
              · obtain ⟨t1, ht1⟩ : ∃ t1, t1 = tabCells f.cs A f.syms.length c := ⟨_, rfl⟩
                obtain ⟨t2, ht2⟩ : ∃ t2, t2 = tabCells f.cs2 A2 f.syms2.length c2 := ⟨_, rfl⟩
                rw [← ht1] at L1 R1 n1 n2 hza Hp1 Hq1 ho1'
                rw [← ht2] at L2 R2 n1 n2 hza Hp1 Hq1 ho2'
                clear Hp2 Hq2
                have HT1 := veil ht1; have HT2 := veil ht2
                clear ht1 ht2
                go_wp2_with (first
                  | (refine wpList_load_mid rfl 27 (.tmp 50) rfl w.heap.size 67 rfl t1 _ R1.out Try.underlying27 rfl (by rw [L1.out]; exact info_tab) ?_)
                  | (refine wpList_load_mid rfl 27 (.tmp 53) rfl w.heap.size 84 rfl t2 _ R2.out Try.underlying27 rfl (by rw [L2.out]; exact info_tab) ?_)
                  | (refine wpList_buildTabs rfl (.tmp 51) (.tmp 54) rfl t1 t2 rfl rfl L1.out L2.out ?_)
                  | (refine wpList_load_mid rfl 27 (.tmp 57) rfl wr.heap.size 0 rfl t1 _ n1 Try.underlying27 rfl (by rw [L1.out]; exact info_tab) ?_)
                  | (refine wpList_store_newK _ (wr.heap.size + 1) hza rfl 27 (.tmp 10) (.tmp 58) rfl _ t1 rfl rfl (by rw [L1.out]; exact info_tab) (by rw [L1.out]; rfl) ho1'.out ?_)
                  | fail)
                go_meet
                case rel => exact ⟨wr.heap.size + 1, rfl, veil (by rw [sel2_0, sel2_0, sel2_0, sel2_0, ← HT1.out]; exact Hp1.out), Hq1⟩
              · obtain ⟨t1, ht1⟩ : ∃ t1, t1 = tabCells f.cs A f.syms.length c := ⟨_, rfl⟩
                obtain ⟨t2, ht2⟩ : ∃ t2, t2 = tabCells f.cs2 A2 f.syms2.length c2 := ⟨_, rfl⟩
                rw [← ht1] at L1 R1 n1 n2 hza Hp2 Hq2 ho1'
                rw [← ht2] at L2 R2 n1 n2 hza Hp2 Hq2 ho2'
                clear Hp1 Hq1
                have HT1 := veil ht1; have HT2 := veil ht2
                clear ht1 ht2
                go_wp2_with (first
                  | (refine wpList_load_mid rfl 27 (.tmp 50) rfl w.heap.size 67 rfl t1 _ R1.out Try.underlying27 rfl (by rw [L1.out]; exact info_tab) ?_)
                  | (refine wpList_load_mid rfl 27 (.tmp 53) rfl w.heap.size 84 rfl t2 _ R2.out Try.underlying27 rfl (by rw [L2.out]; exact info_tab) ?_)
                  | (refine wpList_buildTabs rfl (.tmp 51) (.tmp 54) rfl t1 t2 rfl rfl L1.out L2.out ?_)
                  | (refine wpList_load_mid rfl 27 (.tmp 57) rfl wr.heap.size 17 rfl t2 _ n2 Try.underlying27 rfl (by rw [L2.out]; exact info_tab) ?_)
                  | (refine wpList_store_newK _ (wr.heap.size + 1) hza rfl 27 (.tmp 10) (.tmp 58) rfl _ t2 rfl rfl (by rw [L2.out]; exact info_tab) (by rw [L2.out]; rfl) ho2'.out ?_)
                  | fail)
                go_meet
                case rel => exact ⟨wr.heap.size + 1, rfl, veil (by rw [sel2_1, sel2_1, sel2_1, sel2_1, ← HT2.out]; exact Hp2.out), Hq2⟩
            case rest =>
              obtain ⟨g, rfl, HOc, Hbc⟩ := hcut
              obtain ⟨Wc, hWc⟩ : ∃ Wc, Wc = wc := ⟨_, rfl⟩
              subst hWc
              obtain ⟨cs, hcs⟩ : ∃ cs, cs = sel2 k f.cs f.cs2 := ⟨_, rfl⟩
              obtain ⟨ss, hss⟩ : ∃ ss, ss = sel2 k f.syms f.syms2 := ⟨_, rfl⟩
              obtain ⟨Ak, hAk⟩ : ∃ Ak, Ak = sel2 k A A2 := ⟨_, rfl⟩
              obtain ⟨ck, hck⟩ : ∃ ck, ck = sel2 k c c2 := ⟨_, rfl⟩
              rw [← hcs, ← hss] at Hnx Hti
              rw [← hAk, ← hss] at Hsee
              rw [← hcs, ← hss, ← hAk, ← hck] at HOc
              clear HOo Hbr R1 R2 hk01 hcs hss hAk hck
              have h16 := Hti.out.len
              have hfew := Hti.out.few
              have hrg := range_left (rowAt HOc.out (List.mem_cons_of_mem _ (List.mem_cons_self ..)))
              have hm0 : Hid (out = out ++ w2s (cs.take 0)) := by show _ = _; simp [w2s]
              have Hcv : Hid ((ints .i64 cs).length = 16) := by show _ = _; rw [ints_length, h16]
              have Hcat : Hid (∀ (k : Nat) (x : Int), cs[k]? = some x → (ints .i64 cs)[k]? = some (.int .i64 x)) := fun _ _ h => ints_at h
              have H16 := veil h16
              clear h16
              obtain ⟨cv, hcv⟩ : ∃ cv, cv = ints .i64 cs := ⟨_, rfl⟩
              rw [← hcv] at Hcv Hcat hrg
              clear hcv
              go_wp2_with (first
                | (refine wpList_load_mid rfl 24 (.tmp 59) rfl g 0 rfl cv _ hrg Try.underlying24 rfl (by rw [Hcv.out]; exact info_arr) ?_)
                | fail)
              clear hrg
              go_loopg [5, 12, 61] 16 (fun gk ov nv iv wr => ∃ (j : Nat) (o2 : List Int), gk = 16 - j ∧ j ≤ 16 ∧ iv = .int .i64 (j : Int) ∧ Hid (o2 = out ++ w2s (cs.take j)) ∧ o2.length = out.length + 2 * j ∧ Hid (Owns B [byteRow ov o2, tabRow g (tabCells cs Ak ss.length ck)] wr) ∧ Hid (Below B W4 wr))
              case atStart => exact ⟨0, out, rfl, by omega, rfl, hm0, rfl, HOc, Hbc⟩
              case round =>
                clear hm0 HOc Hbc
                obtain ⟨j, o2, rfl, hj, rfl, HI, hol2, HOo, Hbr⟩ := hrel
                by_cases hjt : j < 16
                · have hjz : (j : Int) < 16 := by omega
                  obtain ⟨x, hx⟩ := some_at (xs := cs) (j := j) (by rw [H16.out]; exact hjt)
                  have hxs := Hcat.out _ _ hx
                  have hx8 := Hti.out.pos x (List.mem_of_getElem? hx)
                  have i5 := u8_byte (x := x / 256) (by omega)
                  have i6 := u8_byte (x := x % 256) (by omega)
                  have q5 : Int.tdiv x 256 = x / 256 := Int.tdiv_eq_ediv_of_nonneg hx8.1
                  have q6 : Int.tmod x 256 = x % 256 := Int.tmod_eq_emod_of_nonneg hx8.1
                  have HI2 : Hid (o2 ++ [x / 256, x % 256] = out ++ w2s (cs.take (j + 1))) := by show _ = _; rw [w2s_snoc hx, HI.out, List.append_assoc]
                  clear hx HI
                  go_wp2_with (first
                    | (refine wpList_index_arr rfl 24 (.tmp 60) (.tmp 61) rfl 16 3 .i64 Try.underlying24 Try.underlying3 (by kernel_rfl) cv rfl .i64 j rfl (.int .i64 x) hjt hxs ?_)
                    | (at_builtin; go_loud (refine wpList_ownI _ rfl (.tmp 64) (.tmp 71) _ rfl B 5 .u8 1 elem_byte u5 o2 [tabRow g (tabCells cs Ak ss.length ck)] rfl HOo.out [x / 256, x % 256] rfl (by unfold maxLen; simp; omega) (by simp; omega) ?_); intro v6 w6 HO6 hb6 hz6)
                    | fail)
                  go_roundg (16 - (j + 1))
                  case rel => exact ⟨j + 1, o2 ++ [x / 256, x % 256], rfl, by omega, by go_num, HI2, by simp; omega, veil HO6, veil (Hbr.out.trans hb6)⟩
                  case measure => omega
                · obtain rfl : j = 16 := by omega
                  have hh := HI.out
                  rw [List.take_of_length_le (by rw [H16.out]; omega)] at hh
                  have Hh := veil hh
                  have c16 : wr.cell? ⟨g, 16, none⟩ = some (.slice Ak ss.length ck) := by
                    have h9 := rowAt HOo.out (List.mem_cons_of_mem _ (List.mem_cons_self ..)) 16 _ (tabCells_last H16.out)
                    simpa using h9
                  have hm0 : Hid (o2 = o2 ++ ss.take 0) := by show _ = _; simp
                  have hlo2 : o2.length ≤ out.length + 32 := by omega
                  clear hh HI hol2
                  go_wp2_with fail
                  clear c16
                  go_loopg [5, 14, 77] ss.length (fun gk ov nv iv wr => ∃ (j : Nat) (o3 : List Int), gk = ss.length - j ∧ j ≤ ss.length ∧ iv = .int .i64 (j : Int) ∧ Hid (o3 = o2 ++ ss.take j) ∧ o3.length = o2.length + j ∧ Hid (Owns B [byteRow ov o3, tabRow g (tabCells cs Ak ss.length ck)] wr) ∧ Hid (Below B W4 wr))
                  case atStart => exact ⟨0, o2, rfl, Nat.zero_le _, rfl, hm0, rfl, HOo, Hbr⟩
                  case round =>
                    clear hm0 HOo Hbr
                    obtain ⟨j, o3, rfl, hj, rfl, HI, hol3, HOo, Hbr⟩ := hrel
                    by_cases hjt : j < ss.length
                    · have hjz : (j : Int) < (ss.length : Int) := by omega
                      obtain ⟨gs, os, x, rfl, hgs, hx, hcx⟩ := ((Hsee.out.up (show G ≤ B by omega)).below Hbr.out (Nat.le_refl _)).int hjt
                      have hx8 := Hti.out.sym x (List.mem_of_getElem? hx)
                      have i5 := u8_byte hx8
                      have HI2 : Hid (o3 ++ [x] = o2 ++ ss.take (j + 1)) := by show _ = _; rw [take_snoc hx, HI.out, List.append_assoc]
                      clear hx HI
                      go_wp2_with (first
                        | (at_builtin; go_loud (refine wpList_ownI _ rfl (.tmp 81) (.tmp 84) _ rfl B 5 .u8 1 elem_byte u5 o3 [tabRow g (tabCells cs (some ⟨gs, os, none⟩) ss.length ck)] rfl HOo.out [x] rfl (by unfold maxLen; simp; omega) (by simp; omega) ?_); intro v6 w6 HO6 hb6 hz6)
                        | fail)
                      go_roundg (ss.length - (j + 1))
                      case rel => exact ⟨j + 1, o3 ++ [x], rfl, by omega, by go_num, HI2, by simp; omega, veil HO6, veil (Hbr.out.trans hb6)⟩
                      case measure => omega
                    · obtain rfl : j = ss.length := by omega
                      have hh2 := HI.out
                      rw [List.take_of_length_le (Nat.le_refl _), Hh.out] at hh2
                      have hfinal : o3 = partF f (k + 1) := by rw [Hnx.out, hh2]; simp [tabB]
                      have HF := veil hfinal
                      clear hh2 hfinal HI
                      go_wp2_with fail
                      go_roundg (2 - (k + 1))
                      case rel => exact ⟨k + 1, o3, rfl, by omega, by go_num, HF, by omega, veil HOo.out.swap.tail, Hbr⟩
                      case measure => omega
          · obtain rfl : k = 2 := by omega
            have hf2 := partF_2 f
            rw [← HI.out, ← HO.out] at hf2
            have HF := veil hf2
            have hat := HAt4.out.below Hbr.out hBw
            have k5 := hat.data
            have hsd := (Hf.out.below (Hbw4.out.trans (Hbr.out.mono (by omega))) hG)
            have hsd3 := hsd.see3.up (show G ≤ wr.heap.size by have := Hbr.out.size; omega)
            have hdl := Hp.out.data
            have hfin := Hbw4.out.trans (Hbr.out.mono (by omega))
            have Hfin := veil hfin
            clear hf2 hat hsd hfin HI
            go_wp2_with (first
              | (at_builtin; go_loud (refine wpList_ownV wr rfl (.tmp 88) (.tmp 90) _ rfl B 5 1 1 elem_byte u5 out.length (ints .u8 out) [] rfl HOo.out wr.heap.size A3 f.data.length c3 (ints .u8 f.data) rfl hsd3 (by rw [ints_length]; omega) ints_one (by unfold maxLen; omega) (by omega) ?_); intro v7 w7 HO7 hb7)
              | fail)
            have hfin := Hfin.out.trans (hb7.mono (by omega))
            go_ret2
            exact ⟨_, rfl, by rw [intRow_append, HF.out] at HO7; exact HO7.down (by omega), hfin⟩
  · have hO := HOe.out h0
    have HO := veil hO
    have hne : (E != 0) = true := by simpa using h0
    clear hO h0
    go_wp2_with fail
    go_ret2
    exact ⟨_, rfl, by rw [HO.out]; exact (Owns.nil hbw1.size).fresh _ _, hbw1⟩
end Go.Proofs.Ytmdjhbkpekepgaa

/- The reference's Copy of bytes: its contract. -/
namespace Go.Proofs.Ytmdjhbkpekepgaa
open Go.RowKit
set_option linter.unusedVariables false
set_option linter.unusedSimpArgs false
set_option maxRecDepth 100000

theorem copyB_any (A : Option Addr) (c G : Nat) (xs : List Int) (w : World) (hs : Seen w G A (ints .u8 xs)) (hm : xs.length ≤ 1048576) (hG : G ≤ w.heap.size) :
    Calls Try.prog 32 #[.slice A xs.length c] w fun e w' => ∃ v, e = .returned v ∧ Owns w.heap.size [byteRow v xs] w' ∧ Below w.heap.size w w' := by
  have hs' := hs.up hG
  have hO0 : Owns w.heap.size [⟨5, 1, .slice none 0 0, 0, []⟩] w := (Owns.start w).fresh _ _
  go_enter Try.func32, Try.ntmps32
  go_wp2_with (first
    | (at_builtin; go_loud (refine wpList_ownV w rfl (.const (.slice none 0 0)) (.tmp 3) _ rfl w.heap.size 5 1 1 elem_byte (.slice none 0 0) 0 [] [] rfl hO0 w.heap.size A xs.length c (ints .u8 xs) rfl hs' (by rw [ints_length]; omega) ints_one (by unfold maxLen; omega) (by omega) ?_); intro v1 w1 HO1 hb1)
    | fail)
  have e1 : byteRow v1 xs = ⟨5, 1, v1, 0 + xs.length, [] ++ ints .u8 xs⟩ := by unfold byteRow intRow; simp
  go_ret
  exact ⟨v1, rfl, by rw [e1]; exact HO1, hb1⟩
end Go.Proofs.Ytmdjhbkpekepgaa

/- The reference's comparison of two lists of bytes tells whether they are equal. -/
namespace Go.Proofs.Ytmdjhbkpekepgaa
open Go.RowKit
set_option linter.unusedVariables false
set_option linter.unusedSimpArgs false
set_option maxRecDepth 100000

set_option maxHeartbeats 400000 in
theorem eqByte (A B : Option Addr) (c d G : Nat) (xs ys : List Int) (w : World) (hx : Seen w G A (ints .u8 xs)) (hy : Seen w G B (ints .u8 ys)) (hlx : xs.length ≤ maxLen) (hly : ys.length ≤ maxLen) :
    Calls Try.prog 13 #[.slice A xs.length c, .slice B ys.length d] w fun e w' => e = .returned (.bool (decide (xs = ys))) ∧ w = w' := by
  unfold maxLen at hlx hly
  by_cases hl : xs.length = ys.length
  · have hne : ((xs.length : Int) != (ys.length : Int)) = false := by simp [hl]
    have Hl := veil hl
    clear hl
    go_enter Try.func13, Try.ntmps13
    go_wp2
    go_loop [5, 6, 14] (fun _ _ i => ∃ k : Nat, k ≤ xs.length ∧ i = .int .i64 k ∧ Hid (xs.take k = ys.take k)) (fun _ _ i => xs.length - (intOf i).toNat)
    case atStart => exact ⟨0, Nat.zero_le _, rfl, veil rfl⟩
    case round =>
      obtain ⟨k, hk, rfl, He⟩ := hrel
      by_cases hlt : k < xs.length
      · have hky : (k : Int) < (ys.length : Int) := by have := Hl.out; omega
        obtain ⟨g, o, x, rfl, _, hxk, h1⟩ := hx.int hlt
        obtain ⟨g', o', y, rfl, _, hyk, h2⟩ := hy.int (k := k) (by omega)
        have Hx := veil hxk; have Hy := veil hyk
        clear hxk hyk
        by_cases hxy : x = y
        · obtain rfl := hxy
          have hb : (x != x) = false := by simp
          go_wp2
          go_round
          case rel => exact ⟨k + 1, by omega, by go_num, veil (by rw [take_snoc Hx.out, take_snoc Hy.out, He.out])⟩
          case measure => simp [intOf]; omega
        · have hb : (x != y) = true := by simpa using hxy
          go_wp2
          go_ret
          refine ⟨ret_bool ?_, rfl⟩
          symm
          simp only [decide_eq_false_iff_not]
          intro e
          have h3 := Hx.out
          rw [e, Hy.out] at h3
          exact hxy (by injection h3 with h3; exact h3.symm)
      · go_wp2
        go_ret
        refine ⟨ret_bool ?_, rfl⟩
        symm
        have h3 := He.out
        rw [List.take_of_length_le (by omega), List.take_of_length_le (by have := Hl.out; omega)] at h3
        simpa using h3
  · have hne : ((xs.length : Int) != (ys.length : Int)) = true := by simp; omega
    have hd : decide (xs = ys) = false := by simp; intro e; exact hl (by rw [e])
    have Hd := veil hd
    clear hd hl
    go_enter Try.func13, Try.ntmps13
    go_wp2
    go_ret
    exact ⟨ret_bool Hd.out.symm, rfl⟩
end Go.Proofs.Ytmdjhbkpekepgaa

/- A call of a function that was handed over, its number a letter; a block and two numbers handed back; what a call may do to one block. No program is named here. -/
namespace Go.Proofs.Ytmdjhbkpekepgaa
open Go.RowKit
set_option linter.unusedVariables false
set_option linter.unusedSimpArgs false
set_option maxRecDepth 100000

/-- A call of this function enters its body. -/
def Enters (P : Program) (f : FuncId) : Prop := ∀ (args : Array Value) (w : World), (callFunc f args).run P w = .ok (.enter f args) w
theorem Enters.of {P : Program} {f : FuncId} {fn : Func} (h : P.funcs[f]? = some fn) (hn : (fn.name == "runtime.NumGoroutine") = false) (hb : fn.body.isNone = false) : Enters P f := by
  intro args w
  have h1 : ¬ fn.name = "runtime.NumGoroutine" := by simpa using hn
  have h2 : ¬ fn.body = none := by intro e; rw [e] at hb; cases hb
  simp [callFunc, h, h1, h2]
/-- Only block g of those that were there has changed. -/
theorem grown_below {w w1 w2 : World} {B g : Nat} (h : w.grownBy w1 (some g)) (hb : Below B w1 w2) (hB : w.heap.size ≤ B) : w.grownBy w2 (some g) :=
  ⟨hb.os.trans h.os, hb.tape.trans h.tape, hb.output.trans h.output, Nat.le_trans h.size hb.size, fun i hi hr => (hb.block i (by omega)).trans (h.block i hi hr)⟩
theorem grown_set {w w1 : World} {g b k : Nat} {v : Value} (h : w.grownBy w1 (some g)) (hb : w.heap.size ≤ b) : w.grownBy (w1.setCell ⟨b, k, none⟩ v) (some g) :=
  ⟨h.os, h.tape, h.output, by have := h.size; simpa [World.setCell] using this, fun i hi hr => (Below.heap_setCell _ _ _ _ (by simp; omega)).trans (h.block i hi hr)⟩
theorem grown_setCell (w : World) (g k : Nat) (v : Value) : w.grownBy (w.setCell ⟨g, k, none⟩ v) (some g) := ⟨rfl, rfl, rfl, by simp [World.setCell], fun i _ hi => Below.heap_setCell _ _ _ _ (fun e => hi (by rw [e]))⟩
theorem Seen.grown {w w' : World} {G g : Nat} {A : Option Addr} {xs : List Value} (h : Seen w G A xs) (hg : w.grownBy w' (some g)) (h1 : G ≤ g) (h2 : G ≤ w.heap.size) : Seen w' G A xs :=
  h.of w w' fun p hp => World.cell?_of_block (hg.block p.block (by omega) (by simp; omega))
end Go.Proofs.Ytmdjhbkpekepgaa

/- Rows of numbers. -/
namespace Go.Proofs.Ytmdjhbkpekepgaa
open Go.RowKit

theorem elem_int : ElemOf Try.prog 25 3 1 8 := .mk' (z := .int .i64 0) Try.underlying25 (by kernel_rfl) rfl (by omega)
end Go.Proofs.Ytmdjhbkpekepgaa

/- A drawn region driven by hand: what may be taken first is taken first, where its result goes is told. No program is named here. -/
namespace Go.Proofs.Ytmdjhbkpekepgaa
open Go.RowKit
set_option linter.unusedVariables false
set_option linter.unusedSimpArgs false
set_option maxRecDepth 100000
section
variable {P : Program} {ops : Array Oper} {Q : Exit → Act → World → Prop} {md : Region.Mode} {S : World → Prop} {fuel : Nat} {listed : Array Bool} {ts : List Value} {w : World}
theorem put_some (ts : List Value) (d : Nat) (v : Value) : (({ tmps := ts.toArray, defers := [] } : Act).put (some d) v) = { tmps := (ts.set d v).toArray, defers := [] } := by
  simp [Act.put]
/-- What yields in every world that meets S is taken first. -/
theorem take_pure (i : Nat) (d : Nat) (v : Value) (ts' : List Value) {oi : Oper} (hi : ops[i]? = some oi) (hd : oi.dst = some d) (hs : Region.noSelect ops = true) (hf : Region.free md ops listed i = true) (hr : (Region.ready md ops listed).contains i = true)
    (hQ : ∀ c a w, Q (.panic c) (a.put oi.dst v) w → Q (.panic c) a w) (hw : Region.wanted oi (yielded ops ts.toArray) = true) (hy : ∀ w, S w → (execOp ({ tmps := ts.toArray, defers := [] } : Act).eval oi).run P w = .ok (.value v) w) (hS : S w) (ht : ts.set d v = ts')
    (h : wpAnyH P md ops Q S fuel (listed.setIfInBounds i true) { tmps := ts'.toArray, defers := [] } w) : wpAnyH P md ops Q S (fuel + 1) listed { tmps := ts.toArray, defers := [] } w := by
  refine wpAnyH_take hi hs hf hr hQ (.inl ⟨hw, hy⟩) hS ?_
  rw [hd, put_some, ht]
  exact h
end
end Go.Proofs.Ytmdjhbkpekepgaa
