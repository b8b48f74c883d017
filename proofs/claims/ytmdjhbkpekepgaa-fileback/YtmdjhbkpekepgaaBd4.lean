/- Texts shared by the claims of this seat, in one. -/
import Derived.Test.YtmdjhbkpekepgaaBd2
import Derived.Test.YtmdjhbkpekepgaaRows
import Derived.BigQuiet
import Derived.Deep.LoopGhost
import Derived.Test.YtmdjhbkpekepgaaBd3
import Derived.Test.YtmdjhbkpekepgaaBd1
import Derived.Great.BuildSlice
import Derived.Deep.Cut
import Derived.Deep.DeepCutAuto
import Derived.Lib.SlBytesConst
import Derived.ArgAppend
import Derived.Laws.ResultCell
import Derived.Deep.RegionHeld3
/- The reference's clamp and Round: their contracts. -/
namespace Go.Proofs.Ytmdjhbkpekepgaa
open Go.RowKit
set_option linter.unusedVariables false
set_option linter.unusedSimpArgs false
set_option maxRecDepth 100000

end Go.Proofs.Ytmdjhbkpekepgaa

/- The reference's BlockWithin: its contract. -/
namespace Go.Proofs.Ytmdjhbkpekepgaa
open Go.RowKit
set_option linter.unusedVariables false
set_option linter.unusedSimpArgs false
set_option maxRecDepth 100000

end Go.Proofs.Ytmdjhbkpekepgaa

/- The reference's FileCheck: its contract. -/
namespace Go.Proofs.Ytmdjhbkpekepgaa
open Go.RowKit
set_option linter.unusedVariables false
set_option linter.unusedSimpArgs false
set_option maxRecDepth 100000

theorem eFile_bad {f : FileL} (h : badF f) : eFile f = 1 := by unfold eFile; rw [if_pos h]
theorem eFile_tabs {f : FileL} (h : ¬ badF f) (h2 : eTs f.cs f.syms f.cs2 f.syms2 ≠ 0) : eFile f = eTs f.cs f.syms f.cs2 f.syms2 := by unfold eFile; rw [if_neg h, if_pos h2]
theorem eFile_large {f : FileL} (h : ¬ badF f) (h2 : eTs f.cs f.syms f.cs2 f.syms2 = 0) (h3 : 90000 < f.data.length) : eFile f = 2 := by unfold eFile; rw [if_neg h, if_neg (by rw [h2]; decide), if_pos h3]
theorem eFile_ok {f : FileL} (h : ¬ badF f) (h2 : eTs f.cs f.syms f.cs2 f.syms2 = 0) (h3 : ¬ 90000 < f.data.length) : eFile f = 0 := by unfold eFile; rw [if_neg h, if_neg (by rw [h2]; decide), if_neg h3]
end Go.Proofs.Ytmdjhbkpekepgaa

/- file.Check: its contract. -/
namespace Go.Proofs.Ytmdjhbkpekepgaa
open Go.RowKit
set_option linter.unusedVariables false
set_option linter.unusedSimpArgs false
set_option maxRecDepth 100000

theorem side_any (n : Int) (b : Bool) (w : World) (h : b = true ↔ 1 ≤ n ∧ n ≤ 64) :
    Calls Try.prog 19 #[.int .i64 n] w fun e w' => e = .returned (.bool b) ∧ w = w' := by
  go_enter Try.func19, Try.ntmps19
  cases b with
  | true =>
    obtain ⟨h1, h2⟩ := h.1 rfl
    have d1 : decide (1 ≤ n) = true := decide_eq_true h1
    have d2 : decide (n ≤ 64) = true := decide_eq_true h2
    clear h
    go_wp2
    go_ret
    exact ⟨rfl, rfl⟩
  | false =>
    have h1 : ¬ (1 ≤ n ∧ n ≤ 64) := fun g => by have := h.2 g; simp at this
    clear h
    by_cases h2 : 1 ≤ n
    · have h3 : ¬ n ≤ 64 := by omega
      clear h1
      go_wp2
      go_ret
      exact ⟨rfl, rfl⟩
    · clear h1
      go_wp2
      go_ret
      exact ⟨rfl, rfl⟩
set_option maxRecDepth 100000 in
set_option maxHeartbeats 2000000 in
theorem fileCheck_any : FCheckSpec := by
  intro f A c A2 c2 A3 c3 G w hf hG
  have hb0 := below1 w (.cells (fileCells f A c A2 c2 A3 c3).toArray 32)
  have hz0 : (w.alloc (.cells (fileCells f A c A2 c2 A3 c3).toArray 32)).heap.size = w.heap.size + 1 := by simp
  have hat := fileAt_of hf.form (range_new w (fileCells f A c A2 c2 A3 c3) 32)
  have HC1 := veil (fun W (h : FileIn f A c A2 c2 A3 c3 G W) hG => check_any f.cs f.syms A c G W h.form.cs h.max h.bnd h.see hG)
  have HC2 := veil (fun W (h : FileIn f A c A2 c2 A3 c3 G W) hG => check_any f.cs2 f.syms2 A2 c2 G W h.form.cs2 h.max2 h.bnd2 h.see2 hG)
  have HW := veil (fun W => qcheck_any f.q W hf.form.q)
  have HS := veil side_any
  have H1 := veil (@eFile_bad f)
  have H2 := veil (@eFile_tabs f)
  have H3 := veil (@eFile_large f)
  have H4 := veil (@eFile_ok f)
  have HB : Hid (badF f ↔ f.wide < 1 ∨ 64 < f.wide ∨ f.high < 1 ∨ 64 < f.high ∨ (f.parts ≠ 1 ∧ f.parts ≠ 3) ∨ f.every < 0 ∨ 100 < f.every ∨ inB 1 255 f.q = false) := Iff.rfl
  have Hq : Hid ((ints .i64 f.q).length = 64) := by show _ = _; rw [ints_length, hf.form.q]
  have L1 : Hid ((tabCells f.cs A f.syms.length c).length = 17) := tabCells_length hf.form.cs
  have L2 : Hid ((tabCells f.cs2 A2 f.syms2.length c2).length = 17) := tabCells_length hf.form.cs2
  have HE : Hid (eTs f.cs f.syms f.cs2 f.syms2 = if checkErr f.cs f.syms = 0 then checkErr f.cs2 f.syms2 else checkErr f.cs f.syms) := rfl
  have HQ : Hid (badB 1 255 f.q = if inB 1 255 f.q = true then 0 else 1) := rfl
  have Hf := veil hf
  clear hf
  obtain ⟨k1, k2, k3, hq, ht, k4, k5⟩ := hat
  have ht1 := range_left ht
  have ht2 := range_right ht
  rw [L1.out] at ht2
  unfold fileV
  unfold blkV at HW
  unfold tabV at HC1 HC2
  clear ht
  generalize fileCells f A c A2 c2 A3 c3 = zs at *
  generalize tabCells f.cs A f.syms.length c = t1 at *
  generalize tabCells f.cs2 A2 f.syms2.length c2 = t2 at *
  generalize ints .i64 f.q = xs at *
  generalize badB 1 255 f.q = eq at *
  generalize inB 1 255 f.q = qb at *
  generalize eTs f.cs f.syms f.cs2 f.syms2 = et at *
  generalize checkErr f.cs f.syms = e1 at *
  generalize checkErr f.cs2 f.syms2 = e2 at *
  generalize eFile f = E at *
  generalize f.wide = wide at *
  generalize f.high = high at *
  generalize f.parts = parts at *
  generalize f.every = every at *
  go_enter Try.func9, Try.ntmps9
  go_wp2_with fail
  by_cases b1 : 1 ≤ wide ∧ wide ≤ 64
  case neg =>
    refine (HS.out wide false _ (by simpa using b1)).mono ?_
    rintro e _ ⟨rfl, rfl⟩
    have hE := H1.out (HB.out.2 (by omega))
    subst hE
    go_wp2
    go_ret
    exact ⟨rfl, hb0⟩
  refine (HS.out wide true _ (by simpa using b1)).mono ?_
  rintro e _ ⟨rfl, rfl⟩
  go_wp2_with fail
  by_cases b2 : 1 ≤ high ∧ high ≤ 64
  case neg =>
    refine (HS.out high false _ (by simpa using b2)).mono ?_
    rintro e _ ⟨rfl, rfl⟩
    have hE := H1.out (HB.out.2 (by omega))
    subst hE
    go_wp2
    go_ret
    exact ⟨rfl, hb0⟩
  refine (HS.out high true _ (by simpa using b2)).mono ?_
  rintro e _ ⟨rfl, rfl⟩
  by_cases bp : parts ≠ 1 ∧ parts ≠ 3
  · have hE := H1.out (HB.out.2 (by omega))
    subst hE
    have n1 := bp.1
    have n3 := bp.2
    clear bp
    have d1 : (parts != 1) = true := by simpa using n1
    have d3 : (parts != 3) = true := by simpa using n3
    clear n1 n3
    go_wp2
    go_ret
    exact ⟨rfl, hb0⟩
  have g13 : parts = 1 ∨ parts = 3 := by omega
  have HX := veil bp
  clear bp
  rcases g13 with rfl | rfl
  all_goals
    by_cases b5 : every < 0
    · have hE := H1.out (HB.out.2 (by omega))
      subst hE
      go_wp2
      go_ret
      exact ⟨rfl, hb0⟩
    by_cases b6 : 100 < every
    · have hE := H1.out (HB.out.2 (by omega))
      subst hE
      go_wp2
      go_ret
      exact ⟨rfl, hb0⟩
    go_wp2_with (first
      | (refine wpList_load_long rfl 23 (.tmp 36) rfl w.heap.size 3 rfl xs _ (by simpa using hq) Try.underlying23 rfl (info_blkn Hq.out) ?_)
      | fail)
    refine (HW.out _).mono ?_
    rintro e w1 ⟨rfl, hb1⟩
    have hbw := hb0.trans (hb1.mono (by rw [hz0]; omega))
    have ht1' := range_below ht1 hb1 (by rw [hz0]; omega)
    have ht2' := range_below ht2 hb1 (by rw [hz0]; omega)
    have k5' := (hb1.cell (show w.heap.size < _ by rw [hz0]; omega)).trans k5
    have hz1 : w.heap.size + 1 ≤ w1.heap.size := by have := hb1.size; omega
    clear hq ht1 ht2 k1 k2 k3 k4 k5 hb1
    cases qb with
    | false =>
      have hE := H1.out (HB.out.2 (by simp))
      have he : eq = 1 := HQ.out
      subst hE he
      go_wp2
      go_ret
      exact ⟨rfl, hbw⟩
    | true =>
      have hnb : ¬ badF f := fun h => by have := HB.out.1 h; simp at this; omega
      have he : eq = 0 := HQ.out
      subst he
      go_wp2_with (first
        | (refine wpList_load_mid rfl 27 (.tmp 43) rfl w.heap.size 67 rfl t1 _ (by simpa using ht1') Try.underlying27 rfl (by rw [L1.out]; exact info_tab) ?_)
        | fail)
      refine (HC1.out w1 (Hf.out.below hbw (by omega)) (by omega)).mono ?_
      rintro e w2 ⟨rfl, hb2⟩
      have hbf := hbw.trans (hb2.mono (by omega))
      have k6 := (hb2.cell (show w.heap.size < _ by omega)).trans k5'
      have ht2'' := range_below ht2' hb2 (by omega)
      have hz2 := hb2.size
      clear k5' hb2 HC1 HW ht1' ht2'
      by_cases h0 : e1 = 0
      · subst h0
        have he2 : et = e2 := HE.out
        go_wp2_with (first
          | (refine wpList_load_mid rfl 27 (.tmp 50) rfl w.heap.size 84 rfl t2 _ (by simpa using ht2'') Try.underlying27 rfl (by rw [L2.out]; exact info_tab) ?_)
          | fail)
        refine (HC2.out w2 (Hf.out.below hbf (by omega)) (by omega)).mono ?_
        rintro e w3 ⟨rfl, hb3⟩
        have hbg := hbf.trans (hb3.mono (by omega))
        have k7 := (hb3.cell (show w.heap.size < _ by omega)).trans k6
        clear k6 hb3 HC2 ht2'' hbf
        subst he2
        by_cases h0 : et = 0
        · subst h0
          by_cases h1 : 90000 < f.data.length
          · have hE := H3.out hnb rfl h1
            subst hE
            have h2 : (90000 : Int) < f.data.length := by omega
            go_wp2
            go_ret
            exact ⟨rfl, hbg⟩
          · have hE := H4.out hnb rfl h1
            subst hE
            have h2 : ¬ (90000 : Int) < f.data.length := by omega
            go_wp2
            go_ret
            exact ⟨rfl, hbg⟩
        · have hE := H2.out hnb h0
          subst hE
          have hne : (E != 0) = true := by simpa using h0
          clear h0
          go_wp2
          go_ret
          exact ⟨rfl, hbg⟩
      · have he2 : et = e1 := by have := HE.out; rw [if_neg h0] at this; exact this
        have hE := H2.out hnb (by rw [he2]; exact h0)
        subst he2
        subst hE
        have hne : (E != 0) = true := by simpa using h0
        clear h0
        go_wp2
        go_ret
        exact ⟨rfl, hbf⟩
end Go.Proofs.Ytmdjhbkpekepgaa

/- A slice of two tables, built; a row just laid. -/
namespace Go.Proofs.Ytmdjhbkpekepgaa
open Go.RowKit
set_option linter.unusedVariables false
set_option linter.unusedSimpArgs false
set_option maxRecDepth 100000

/-- What was just laid is a row of one's own. -/
theorem laid_own (w : World) (e : TypeId) (size n : Nat) (xs : List Value) (hl : xs.length = n * size) (hm : n ≤ maxLen) : Owns w.heap.size [⟨e, size, .slice (some ⟨w.heap.size, 0, none⟩) n n, n, xs⟩] (w.alloc (.cells xs.toArray e)) := by
  refine ⟨by simp, fun x hx => ?_, List.pairwise_singleton _ _⟩
  rw [List.mem_singleton.1 hx]
  refine ⟨hl, .inr ⟨w.heap.size, n, xs.toArray, rfl, Nat.le_refl _, heap_alloc_new w _, Nat.le_refl _, hm, by simpa using hl, ?_⟩⟩
  show xs.toArray.toList.take (n * size) = xs
  rw [← hl]; simp
end Go.Proofs.Ytmdjhbkpekepgaa

/- The laws' zigged: the order begins as the document says. -/
namespace Go.Proofs.Ytmdjhbkpekepgaa
open Go.RowKit
set_option linter.unusedVariables false
set_option linter.unusedSimpArgs false
set_option maxRecDepth 100000

theorem zz_form {w : World} {B g c : Nat} {rs : List Row} (h : Owns B (intRow 3 .i64 (.slice (some ⟨g, 0, none⟩) 64 c) zz :: rs) w) : Seen w w.heap.size (some ⟨g, 0, none⟩) (ints .i64 zz) ∧ 64 ≤ c ∧ c ≤ maxLen := by
  obtain ⟨A, c', e, hs, h1, h2⟩ := h.seen (List.mem_cons_self ..)
  simp only [intRow, Value.slice.injEq] at e hs h1
  obtain ⟨e1, e2, e3⟩ := e
  rw [e1, e3]
  exact ⟨hs, by rw [e2]; exact h1, h2⟩
end Go.Proofs.Ytmdjhbkpekepgaa

/- zig.To and zig.From: their contracts. -/
namespace Go.Proofs.Ytmdjhbkpekepgaa
open Go.RowKit
set_option linter.unusedVariables false
set_option linter.unusedSimpArgs false
set_option maxRecDepth 100000

theorem zz_cellK {w : World} {B g : Nat} (h : Seen w B (some ⟨g, 0, none⟩) (ints .i64 zz)) {k : Nat} {x : Int} (hk : zz[k]? = some x) : w.cell? ⟨g, k, none⟩ = some (.int .i64 x) := by
  obtain ⟨g', o, e0, _, hc⟩ := h.cell (ints_at hk)
  injection e0 with e0
  injection e0 with e1 e2
  subst e1 e2
  rwa [Nat.zero_add] at hc
set_option maxHeartbeats 4000000 in
set_option maxRecDepth 100000 in
theorem to_any (cs : List Int) (w : World) (hc : cs.length = 64) :
    Calls Try.prog 26 #[blkV cs] w fun e w' => e = .returned (blkV (toL cs)) ∧ Below w.heap.size w w' := by
  have HA := veil (order_any (box3 cs w))
  obtain ⟨hb3, HB0, HB1, HB2, hz3⟩ := box3_is cs w
  go_enter Try.func26, Try.ntmps26
  go_wp2_with fail
  refine HA.out.mono ?_
  rintro e w2 ⟨g, c, rfl, HO, hb2⟩
  have h1 := (zz_form HO).1
  rw [hz3] at HO hb2
  have HB0' := HB0.below hb2 (by omega)
  have HB1' := HB1.below hb2 (by omega)
  have HB2' := veil (HB2.below hb2 (by omega))
  have hz2 := hb2.size
  have hbw := hb3.trans (hb2.mono (by omega))
  clear HA HB0 HB1 HB2 hb2 h1 hb3
  go_wp2_with fail
  go_loopg [8] 64 (fun gk i wr => ∃ k : Nat, gk = 64 - k ∧ k ≤ 64 ∧ i = .int .i64 (k : Int) ∧ Hid (Blk wr (w.heap.size + 1 + 1) (ints .i64 (toK cs k)) 23) ∧ Hid (w2.grownBy wr (some (w.heap.size + 1 + 1))))
  case atStart => exact ⟨0, rfl, by omega, rfl, veil (by rw [toK_zero]; exact HB2'.out), veil (World.grownBy.refl _ _)⟩
  case round =>
    clear HB2'
    obtain ⟨k, rfl, hk, rfl, HB, HG⟩ := hrel
    have HBX := HB0'.kept HG.out (by simp; omega)
    have HO2 := HO.kept HG.out (by omega)
    have h1 := (zz_form HO2).1
    by_cases hlt : k < 64
    · have hltz : (k : Int) < 64 := by omega
      obtain ⟨⟨n, hn64⟩, hn, _⟩ := zz_at ⟨k, hlt⟩
      simp only at hn
      have hnz : (n : Int) < 64 := by omega
      obtain ⟨x, hx⟩ := some_at (xs := cs) (j := n) (by omega)
      have hcn := zz_cellK h1 hn
      have hcx := HBX.cell (ints_at hx)
      obtain ⟨y, hy⟩ := some_at (xs := toK cs k) (j := k) (by rw [toK_length]; omega)
      have hcy := HB.out.cell (ints_at hy)
      have hfy := HB.out.frozen k
      have HB5 : Hid (Blk (wr.setCell ⟨w.heap.size + 1 + 1, k, none⟩ (.int .i64 x)) (w.heap.size + 1 + 1) (ints .i64 (toK cs (k + 1))) 23) := by
        rw [toK_next hlt hn hx]
        have := HB.out.set k (.int .i64 x)
        rw [show (ints .i64 (toK cs k)).set k (.int .i64 x) = ints .i64 ((toK cs k).set k x) by simp [ints, List.map_set]] at this
        exact this
      have HG5 : Hid (w2.grownBy (wr.setCell ⟨w.heap.size + 1 + 1, k, none⟩ (.int .i64 x)) (some (w.heap.size + 1 + 1))) :=
        HG.out.trans ⟨rfl, rfl, rfl, by simp [World.setCell], fun i _ hi => Below.heap_setCell _ _ _ _ (fun e => hi (by rw [e]))⟩
      clear HB HG HBX HO2 h1 hn hx hy
      go_wp2_with fail
      go_roundg (64 - (k + 1))
      case rel => exact ⟨k + 1, rfl, by omega, by go_num, HB5, HG5⟩
      case measure => omega
    · obtain rfl : k = 64 := by omega
      have HR := HB1'.kept HG.out (by simp)
      have HBr := HB.out
      have Hlen : Hid ((ints .i64 (toK cs 64)).length = 64) := by show _ = _; rw [ints_length, toK_length]
      have hone := ints_one (k := .i64) (l := toK cs 64)
      have hbg : Below w.heap.size w wr := hbw.grown HG.out hbw.size (fun j hj => by injection hj with hj; omega)
      have Hz := veil zeroB_length
      obtain ⟨xs, hxs⟩ : ∃ xs, xs = ints .i64 (toK cs 64) := ⟨_, rfl⟩
      rw [← hxs] at Hlen hone HBr
      have HX := veil hxs
      generalize zeroB = x0 at *
      clear HB HG HBX HO2 h1 hxs
      go_wp2_with (first
        | (refine wpList_load_mid rfl 23 (.tmp 3) rfl (w.heap.size + 1 + 1) 0 rfl xs _ HBr.range Try.underlying23 rfl (info_blkn Hlen.out) ?_)
        | (refine wpList_store_blk wr rfl 23 (.tmp 2) (.tmp 19) rfl (w.heap.size + 1) x0 xs 23 HR rfl rfl (info_blkn Hlen.out) (by rw [Hlen.out, Hz.out]) hone ?_; intro w5 HB5 hg5)
        | fail)
      refine bodyPost_ret (v := .agg xs.toArray) (results_cell_row rfl _ _ (w.heap.size + 1) 23 xs.toArray (0, 0) _ rfl HB5 Try.underlying23 rfl (by simp only [List.size_toArray]; exact info_blkn Hlen.out)) rfl ⟨by rw [HX.out]; rfl, hbg.grown hg5 hbg.size (fun j hj => by injection hj with hj; omega)⟩
set_option maxHeartbeats 4000000 in
set_option maxRecDepth 100000 in
theorem from_any (cs : List Int) (w : World) (hc : cs.length = 64) :
    Calls Try.prog 42 #[blkV cs] w fun e w' => e = .returned (blkV (fromL cs)) ∧ Below w.heap.size w w' := by
  have HA := veil (order_any (box3 cs w))
  obtain ⟨hb3, HB0, HB1, HB2, hz3⟩ := box3_is cs w
  go_enter Try.func42, Try.ntmps42
  go_wp2_with fail
  refine HA.out.mono ?_
  rintro e w2 ⟨g, c, rfl, HO, hb2⟩
  have h1 := (zz_form HO).1
  rw [hz3] at HO hb2
  have HB0' := HB0.below hb2 (by omega)
  have HB1' := HB1.below hb2 (by omega)
  have HB2' := veil (HB2.below hb2 (by omega))
  have hz2 := hb2.size
  have hbw := hb3.trans (hb2.mono (by omega))
  clear HA HB0 HB1 HB2 hb2 h1 hb3
  go_wp2_with fail
  go_loopg [8] 64 (fun gk i wr => ∃ k : Nat, gk = 64 - k ∧ k ≤ 64 ∧ i = .int .i64 (k : Int) ∧ Hid (Blk wr (w.heap.size + 1 + 1) (ints .i64 (fromK cs k)) 23) ∧ Hid (w2.grownBy wr (some (w.heap.size + 1 + 1))))
  case atStart => exact ⟨0, rfl, by omega, rfl, veil (by rw [fromK_zero]; exact HB2'.out), veil (World.grownBy.refl _ _)⟩
  case round =>
    clear HB2'
    obtain ⟨k, rfl, hk, rfl, HB, HG⟩ := hrel
    have HBX := HB0'.kept HG.out (by simp; omega)
    have HO2 := HO.kept HG.out (by omega)
    have h1 := (zz_form HO2).1
    by_cases hlt : k < 64
    · have hltz : (k : Int) < 64 := by omega
      obtain ⟨⟨n, hn64⟩, hn, _⟩ := zz_at ⟨k, hlt⟩
      simp only at hn
      have hnz : (n : Int) < 64 := by omega
      obtain ⟨x, hx⟩ := some_at (xs := cs) (j := k) (by omega)
      have hcn := zz_cellK h1 hn
      have hcx := HBX.cell (ints_at hx)
      obtain ⟨y, hy⟩ := some_at (xs := fromK cs k) (j := n) (by rw [fromK_length]; omega)
      have hcy := HB.out.cell (ints_at hy)
      have hfy := HB.out.frozen n
      have HB5 : Hid (Blk (wr.setCell ⟨w.heap.size + 1 + 1, n, none⟩ (.int .i64 x)) (w.heap.size + 1 + 1) (ints .i64 (fromK cs (k + 1))) 23) := by
        rw [fromK_next hlt hn hx]
        have := HB.out.set n (.int .i64 x)
        rw [show (ints .i64 (fromK cs k)).set n (.int .i64 x) = ints .i64 ((fromK cs k).set n x) by simp [ints, List.map_set]] at this
        exact this
      have HG5 : Hid (w2.grownBy (wr.setCell ⟨w.heap.size + 1 + 1, n, none⟩ (.int .i64 x)) (some (w.heap.size + 1 + 1))) :=
        HG.out.trans ⟨rfl, rfl, rfl, by simp [World.setCell], fun i _ hi => Below.heap_setCell _ _ _ _ (fun e => hi (by rw [e]))⟩
      clear HB HG HBX HO2 h1 hn hx hy
      go_wp2_with fail
      go_roundg (64 - (k + 1))
      case rel => exact ⟨k + 1, rfl, by omega, by go_num, HB5, HG5⟩
      case measure => omega
    · obtain rfl : k = 64 := by omega
      have HR := HB1'.kept HG.out (by simp)
      have HBr := HB.out
      have Hlen : Hid ((ints .i64 (fromK cs 64)).length = 64) := by show _ = _; rw [ints_length, fromK_length]
      have hone := ints_one (k := .i64) (l := fromK cs 64)
      have hbg : Below w.heap.size w wr := hbw.grown HG.out hbw.size (fun j hj => by injection hj with hj; omega)
      have Hz := veil zeroB_length
      obtain ⟨xs, hxs⟩ : ∃ xs, xs = ints .i64 (fromK cs 64) := ⟨_, rfl⟩
      rw [← hxs] at Hlen hone HBr
      have HX := veil hxs
      generalize zeroB = x0 at *
      clear HB HG HBX HO2 h1 hxs
      go_wp2_with (first
        | (refine wpList_load_mid rfl 23 (.tmp 3) rfl (w.heap.size + 1 + 1) 0 rfl xs _ HBr.range Try.underlying23 rfl (info_blkn Hlen.out) ?_)
        | (refine wpList_store_blk wr rfl 23 (.tmp 2) (.tmp 19) rfl (w.heap.size + 1) x0 xs 23 HR rfl rfl (info_blkn Hlen.out) (by rw [Hlen.out, Hz.out]) hone ?_; intro w5 HB5 hg5)
        | fail)
      refine bodyPost_ret (v := .agg xs.toArray) (results_cell_row rfl _ _ (w.heap.size + 1) 23 xs.toArray (0, 0) _ rfl HB5 Try.underlying23 rfl (by simp only [List.size_toArray]; exact info_blkn Hlen.out)) rfl ⟨by rw [HX.out]; rfl, hbg.grown hg5 hbg.size (fun j hj => by injection hj with hj; omega)⟩
end Go.Proofs.Ytmdjhbkpekepgaa

/- The reference's ZigOrder: the same order. -/
namespace Go.Proofs.Ytmdjhbkpekepgaa
open Go.RowKit
set_option linter.unusedVariables false
set_option linter.unusedSimpArgs false
set_option maxRecDepth 100000

end Go.Proofs.Ytmdjhbkpekepgaa

/- The reference's ZigTo and ZigFrom: their contracts. -/
namespace Go.Proofs.Ytmdjhbkpekepgaa
open Go.RowKit
set_option linter.unusedVariables false
set_option linter.unusedSimpArgs false
set_option maxRecDepth 100000

end Go.Proofs.Ytmdjhbkpekepgaa

/- The reference's FilePack: its contract. -/
namespace Go.Proofs.Ytmdjhbkpekepgaa
open Go.RowKit
set_option linter.unusedVariables false
set_option linter.unusedSimpArgs false
set_option maxRecDepth 100000

theorem w2s_snoc {cs : List Int} {k : Nat} {x : Int} (h : cs[k]? = some x) : w2s (cs.take (k + 1)) = w2s (cs.take k) ++ [x / 256, x % 256] := by rw [take_snoc h, w2s_app]; rfl
theorem w2s_mem {cs : List Int} {x : Int} (h : x ∈ cs) : x / 256 ∈ w2s cs ∧ x % 256 ∈ w2s cs := by
  induction cs with
  | nil => cases h
  | cons y l ih =>
    rcases List.mem_cons.1 h with rfl | h
    · simp [w2s]
    · have := ih h; simp only [w2s, List.mem_cons]; exact ⟨.inr (.inr this.1), .inr (.inr this.2)⟩
/-- Counts and symbols whose bytes they are. -/
structure TabIs (cs syms : List Int) : Prop where
  len : cs.length = 16
  pos : ∀ x ∈ cs, 0 ≤ x ∧ x ≤ 65535
  few : syms.length ≤ 256
  sym : ∀ x ∈ syms, 0 ≤ x ∧ x ≤ 255
theorem tabIs_of {cs syms : List Int} (hl : cs.length = 16) (h : checkErr cs syms = 0) (hb : Bytes (tabB cs syms)) : TabIs cs syms := by
  obtain ⟨g1, g2, g3⟩ := good_counts h
  refine ⟨hl, fun x hx => ?_, g2, fun x hx => hb x (List.mem_append.2 (.inr hx))⟩
  have h1 := hb _ (List.mem_append.2 (.inl (w2s_mem hx).1))
  have h2 := hb _ (List.mem_append.2 (.inl (w2s_mem hx).2))
  have := g3 x hx
  omega
theorem u8_byte {x : Int} (h : 0 ≤ x ∧ x ≤ 255) : IntKind.u8.wrap x = x := by rw [IntKind.wrap_u8]; omega
/-- What a packed file is made of. -/
structure PackIs (f : FileL) : Prop where
  wide : 0 ≤ f.wide ∧ f.wide ≤ 255
  high : 0 ≤ f.high ∧ f.high ≤ 255
  parts : 0 ≤ f.parts ∧ f.parts ≤ 255
  every : 0 ≤ f.every ∧ f.every ≤ 255
  z : ∀ x ∈ toL f.q, 0 ≤ x ∧ x ≤ 255
  t1 : TabIs f.cs f.syms
  t2 : TabIs f.cs2 f.syms2
  data : f.data.length ≤ 90000
theorem packIs_of {f : FileL} (h : f.Form) (h0 : eFile f = 0) (hd : Bytes f.data) : PackIs f := by
  have hb := packF_bytes h h0 hd
  obtain ⟨g0, g1, g2, g3⟩ := eFile_zero h0
  have hm : ∀ x, x ∈ headF f ∨ x ∈ tabB f.cs f.syms ∨ x ∈ tabB f.cs2 f.syms2 → 0 ≤ x ∧ x ≤ 255 := fun x hx => hb x (by
    rw [packF]; simp only [List.mem_append]; rcases hx with hx | hx | hx <;> simp [hx])
  have hh : ∀ x ∈ headF f, 0 ≤ x ∧ x ≤ 255 := fun x hx => hm x (.inl hx)
  exact ⟨hh _ (by simp [headF]), hh _ (by simp [headF]), hh _ (by simp [headF]), hh _ (by simp [headF]), fun x hx => hh x (by simp [headF, hx]), tabIs_of h.cs g1 fun x hx => hm x (.inr (.inl hx)), tabIs_of h.cs2 g2 fun x hx => hm x (.inr (.inr hx)), g3⟩
/-- What stands before the k-th table. -/
def partF (f : FileL) (k : Nat) : List Int := headF f ++ (if k = 0 then [] else if k = 1 then tabB f.cs f.syms else tabB f.cs f.syms ++ tabB f.cs2 f.syms2)
theorem partF_0 (f : FileL) : partF f 0 = headF f := by simp [partF]
theorem partF_next (f : FileL) {k : Nat} (h : k < 2) : partF f (k + 1) = partF f k ++ tabB (sel2 k f.cs f.cs2) (sel2 k f.syms f.syms2) := by
  have : k = 0 ∨ k = 1 := by omega
  rcases this with rfl | rfl
  · simp [partF, sel2]
  · simp [partF, sel2]
theorem partF_2 (f : FileL) : partF f 2 ++ f.data = packF f := by simp [partF, packF]
theorem rowAt {w : World} {B g n : Nat} {e : TypeId} {size : Nat} {xs : List Value} {rs : List Row} (h : Owns B rs w) (hr : (⟨e, size, .slice (some ⟨g, 0, none⟩) n n, n, xs⟩ : Row) ∈ rs) : w.rangeAt g 0 xs := fun j v hv => by
  obtain ⟨A2, c2, e2, hs, _, _⟩ := h.seen hr
  have e' : (Value.slice (some ⟨g, 0, none⟩) n n) = .slice A2 n c2 := e2
  obtain ⟨e3, _⟩ : some (⟨g, 0, none⟩ : Addr) = A2 ∧ n = c2 := by simpa using e'
  obtain ⟨g2, o2, e4, _, hc⟩ := hs.cell hv
  rw [← e3] at e4
  obtain ⟨rfl, rfl⟩ : g = g2 ∧ 0 = o2 := by simpa using e4
  exact hc
abbrev tabRow (g : Nat) (xs : List Value) : Row := ⟨27, 17, .slice (some ⟨g, 0, none⟩) 1 1, 1, xs⟩
end Go.Proofs.Ytmdjhbkpekepgaa

/- Rows of numbers. -/
namespace Go.Proofs.Ytmdjhbkpekepgaa
open Go.RowKit

theorem elem_int : ElemOf Try.prog 25 3 1 8 := .mk' (z := .int .i64 0) Try.underlying25 (by kernel_rfl) rfl (by omega)
end Go.Proofs.Ytmdjhbkpekepgaa

/- Bitwise or and and of small numbers. -/
namespace Go.Proofs.Ytmdjhbkpekepgaa
open Go.RowKit
set_option linter.unusedVariables false
set_option linter.unusedSimpArgs false
set_option maxRecDepth 100000

theorem nat_or_low (a i b : Nat) (h : b < 2 ^ i) : a * 2 ^ i ||| b = a * 2 ^ i + b := by
  rw [Nat.mul_comm, Nat.two_pow_add_eq_or_of_lt h]
theorem i64_or (a b : Nat) (ha : a < 9223372036854775808) (hb : b < 9223372036854775808) : bits .or .i64 (a : Int) (b : Int) = ((a ||| b : Nat) : Int) := by
  have hx : a ||| b < 2 ^ 63 := Nat.or_lt_two_pow (by omega) (by omega)
  have e1 : (BitVec.ofInt 64 (a : Int)).toNat = a := by rw [BitVec.ofInt_natCast, BitVec.toNat_ofNat]; exact Nat.mod_eq_of_lt (by omega)
  have e2 : (BitVec.ofInt 64 (b : Int)).toNat = b := by rw [BitVec.ofInt_natCast, BitVec.toNat_ofNat]; exact Nat.mod_eq_of_lt (by omega)
  show IntKind.i64.wrap ((BitVec.ofInt 64 (a : Int) ||| BitVec.ofInt 64 (b : Int)).toNat : Int) = _
  rw [BitVec.toNat_or, e1, e2, IntKind.wrap_i64]
  omega
theorem i64_and (a b : Nat) (ha : a < 9223372036854775808) (hb : b < 9223372036854775808) : bits .and .i64 (a : Int) (b : Int) = ((a &&& b : Nat) : Int) := by
  have hx : a &&& b < 2 ^ 63 := Nat.and_lt_two_pow _ (by omega)
  have e1 : (BitVec.ofInt 64 (a : Int)).toNat = a := by rw [BitVec.ofInt_natCast, BitVec.toNat_ofNat]; exact Nat.mod_eq_of_lt (by omega)
  have e2 : (BitVec.ofInt 64 (b : Int)).toNat = b := by rw [BitVec.ofInt_natCast, BitVec.toNat_ofNat]; exact Nat.mod_eq_of_lt (by omega)
  show IntKind.i64.wrap ((BitVec.ofInt 64 (a : Int) &&& BitVec.ofInt 64 (b : Int)).toNat : Int) = _
  rw [BitVec.toNat_and, e1, e2, IntKind.wrap_i64]
  omega
theorem and_255 (x : Int) (h0 : 0 ≤ x) (h1 : x ≤ 65535) : bits BinOp.and IntKind.i64 x 255 = x % 256 := by
  obtain ⟨X, rfl⟩ := Int.eq_ofNat_of_zero_le h0
  have e := i64_and X (2 ^ 8 - 1) (by omega) (by omega)
  rw [Nat.and_two_pow_sub_one_eq_mod] at e
  have e2 : (((2 ^ 8 - 1 : Nat) : Int)) = 255 := rfl
  rw [e2] at e
  rw [e]
  omega
theorem or_byte (x y : Int) (h0 : 0 ≤ x) (h1 : x ≤ 65535) (hy : 0 ≤ y ∧ y ≤ 255) : bits BinOp.or IntKind.i64 (IntKind.i64.wrap (x * 256)) y = 256 * x + y := by
  obtain ⟨X, rfl⟩ := Int.eq_ofNat_of_zero_le h0
  obtain ⟨Y, rfl⟩ := Int.eq_ofNat_of_zero_le hy.1
  have e1 : IntKind.i64.wrap ((X : Int) * 256) = ((X * 2 ^ 8 : Nat) : Int) := by rw [IntKind.wrap_i64]; omega
  rw [e1, i64_or _ _ (by omega) (by omega), nat_or_low _ 8 _ (by omega)]
  omega
end Go.Proofs.Ytmdjhbkpekepgaa

/- file.Pack: its contract. -/
namespace Go.Proofs.Ytmdjhbkpekepgaa
open Go.RowKit
set_option linter.unusedVariables false
set_option linter.unusedSimpArgs false
set_option maxRecDepth 100000

/-- One's own, or full and seen. -/
def OwnOr (B : Nat) (v : Value) (o : List Int) (rs : List Row) (w : World) : Prop :=
  Owns B (byteRow v o :: rs) w ∨ (Owns B rs w ∧ ∃ a : Addr, v = .slice (some a) o.length o.length ∧ ∀ j u, (ints .u8 o)[j]? = some u → w.cell? (a.add j) = some u)
theorem OwnOr.rest {B : Nat} {v : Value} {o : List Int} {rs : List Row} {w : World} (h : OwnOr B v o rs w) : Owns B rs w := h.elim (fun h => h.tail) (fun h => h.1)
theorem info_byte3 : ∃ i, Try.prog.info? 5 = some i ∧ i.zero = some (.int .u8 0) ∧ i.size = 1 ∧ i.bytes = 1 := ⟨_, rfl, by kernel_rfl, by kernel_rfl, by kernel_rfl⟩
theorem wpList_ownO {ops : Array Oper} {rest : List Oper} {o : Oper} {a : Act} {Q : Exit → Act → World → Prop} (w0 : World) (hgd : Region.wanted o (yielded ops a.tmps) = true) (s x : Operand)
    (ho : o.op = .call { callee := .builtin .append, args := #[s, x], argTypes := #[30, 30] })
    (B : Nat) (v : Value) (l : List Int) (rs : List Row) (hs : a.eval s = v) (HO : OwnOr B v l rs w0) (y : Int) (hx : a.eval x = .slice (some ⟨w0.heap.size, 0, none⟩) 1 1)
    (h63 : l.length ≤ 1000000)
    (h : ∀ v' w', Owns B (byteRow v' (l ++ [y]) :: rs) w' → Below B w0 w' → w0.heap.size < w'.heap.size → wpList Try.prog ops Q rest (a.put o.dst v') w') : wpList Try.prog ops Q (o :: rest) a (w0.alloc (.cells #[.int .u8 y] 5)) := by
  rcases HO with HO | ⟨HO, ad, hv, hc⟩
  · exact wpList_ownI w0 hgd s x 30 ho B 5 .u8 1 elem_byte v l rs hs HO [y] hx (by unfold maxLen; simp; omega) (by simp; omega) h
  · obtain ⟨i, hi, hz, h1, h2⟩ := info_byte3
    have hB := HO.base
    have hz1 : (w0.alloc (.cells #[.int .u8 y] 5)).heap.size = w0.heap.size + 1 := by simp
    obtain ⟨v', w', hr, g1, g2⟩ := run_append_arg_grows (P := Try.prog) (w0.alloc (.cells #[.int .u8 y] 5)) 30 o.type 5 i (.int .u8 0) 1 1 Try.underlying30 hi hz h1 h2 rfl (by decide) ad l.length l.length (ints .u8 l) (by rw [ints_length]; omega)
      (fun j u hu => (World.grownBy_alloc w0 _ none).cell (hc j u hu) (by simp)) ⟨w0.heap.size, 0, none⟩ 1 1 [.int .u8 y] rfl (fun j u hu => by
        obtain rfl : j = 0 := by have := (List.getElem?_eq_some_iff.1 hu).1; simpa using this
        have := (Blk.new w0 [.int .u8 y] 5).cell hu
        rw [addr_add]; simpa using this) (by omega) (by unfold maxLen; omega) (by omega)
    have hb : Below (w0.alloc (.cells #[.int .u8 y] 5)).heap.size (w0.alloc (.cells #[.int .u8 y] 5)) w' := (Below.refl _ _).grown g2 (Nat.le_refl _) (fun q hq => by cases hq)
    refine wpList_step fun K hK => ?_
    rw [if_pos hgd]
    unfold Oper.wp execOp
    simp only [ho, resolve, invoke, builtin, Sem.run_bind, Sem.run_pure, Result.andThen_ok, List.map_toArray, List.map_cons, List.map_nil, hs, hv, hx, hr]
    refine hK _ _ (h v' w' ?_ ((below1 w0 _).mono hB |>.trans (hb.mono (by omega))) (by have := hb.size; omega))
    have h5 := (HO.alloc (.cells #[.int .u8 y] 5)).call hb (ts := [⟨5, 1, v', l.length + 1, ints .u8 l ++ [.int .u8 y]⟩]) (.one hb.size g1)
    have e : (⟨5, 1, v', l.length + 1, ints .u8 l ++ [.int .u8 y]⟩ : Row) = byteRow v' (l ++ [y]) := intRow_append 5 .u8 v' l [y]
    rw [← e]; exact h5
/-- Numbers appended as bytes. -/
theorem appNums_gen (out xs : List Int) (rs : List Row) (v : Value) (A : Option Addr) (c B : Nat) (w : World) (HO : OwnOr B v out rs w) (hne : xs ≠ [] ∨ Owns B (byteRow v out :: rs) w)
    (HS : ∀ w', Below B w w' → Owns B rs w' → ∃ G', Seen w' G' A (ints .i64 xs)) (hx : ∀ x ∈ xs, 0 ≤ x ∧ x ≤ 255) (h1 : out.length ≤ 100000) (h2 : xs.length ≤ 1000) :
    Calls Try.prog 25 #[v, .slice A xs.length c] w fun e w' => ∃ v', e = .returned v' ∧ Owns B (byteRow v' (out ++ xs) :: rs) w' ∧ Below B w w' := by
  have HI0 : Hid (out = out ++ xs.take 0) := by show _ = _; simp
  have HO0 := veil HO
  have Hne := veil hne
  have Hb0 : Hid (Below B w w) := Below.refl _ _
  have HS' := veil HS
  have Hx := veil hx
  clear HO HS hx hne
  go_enter Try.func25, Try.ntmps25
  go_wp2_with fail
  go_loopg [0, 6, 9] xs.length (fun gk ov nv iv wr => ∃ (k : Nat) (o : List Int), gk = xs.length - k ∧ k ≤ xs.length ∧ iv = .int .i64 (k : Int) ∧ Hid (o = out ++ xs.take k) ∧ o.length = out.length + k ∧ Hid (OwnOr B ov o rs wr) ∧ Hid (k ≠ 0 ∨ Owns B (byteRow v out :: rs) w → Owns B (byteRow ov o :: rs) wr) ∧ Hid (Below B w wr))
  case atStart => exact ⟨0, out, rfl, Nat.zero_le _, rfl, HI0, rfl, HO0, veil (fun h => h.elim (fun h => absurd rfl h) id), Hb0⟩
  case round =>
    clear HI0 HO0 Hb0
    obtain ⟨k, o, rfl, hk, rfl, HI, hol, HOo, HOk, Hb⟩ := hrel
    by_cases hlt : k < xs.length
    · have hltz : (k : Int) < (xs.length : Int) := by omega
      obtain ⟨G', hG'⟩ := HS'.out wr Hb.out HOo.out.rest
      obtain ⟨gs, os, x, rfl, hgs, hx, hcx⟩ := hG'.int hlt
      have hx8 := Hx.out x (List.mem_of_getElem? hx)
      have i5 := u8_byte hx8
      have HI2 : Hid (o ++ [x] = out ++ xs.take (k + 1)) := by show _ = _; rw [take_snoc hx, HI.out, List.append_assoc]
      clear hx HI hG' hgs hx8 HOk
      go_wp2_with (first
        | (at_builtin; go_loud (refine wpList_ownO _ rfl (.tmp 13) (.tmp 16) rfl B u0 o rs rfl HOo.out x rfl (by omega) ?_); intro v6 w6 HO6 hb6 hz6)
        | fail)
      go_roundg (xs.length - (k + 1))
      case rel => exact ⟨k + 1, o ++ [x], rfl, by omega, by go_num, HI2, by simp; omega, veil (.inl HO6), veil (fun _ => HO6), veil (Hb.out.trans hb6)⟩
      case measure => omega
    · obtain rfl : k = xs.length := by omega
      have hh := HI.out
      rw [List.take_of_length_le (Nat.le_refl _)] at hh
      have HF := veil hh
      have HO9 : Hid (Owns B (byteRow u0 o :: rs) wr) := veil (HOk.out (Hne.out.imp (fun h => by simpa using h) id))
      clear hh HI hlt HOk HOo
      go_wp2_with fail
      go_ret
      exact ⟨_, rfl, by rw [← HF.out]; exact HO9.out, Hb.out⟩
theorem appNums_any (out xs : List Int) (rs : List Row) (v : Value) (A : Option Addr) (c B : Nat) (w : World) (HO : Owns B (byteRow v out :: rs) w)
    (HS : ∀ w', Below B w w' → Owns B rs w' → ∃ G', Seen w' G' A (ints .i64 xs)) (hx : ∀ x ∈ xs, 0 ≤ x ∧ x ≤ 255) (h1 : out.length ≤ 100000) (h2 : xs.length ≤ 1000) :
    Calls Try.prog 25 #[v, .slice A xs.length c] w fun e w' => ∃ v', e = .returned v' ∧ Owns B (byteRow v' (out ++ xs) :: rs) w' ∧ Below B w w' :=
  appNums_gen out xs rs v A c B w (.inl HO) (.inr HO) HS hx h1 h2
theorem rowSeen {w : World} {B : Nat} {rs : List Row} {e : TypeId} {A : Option Addr} {c : Nat} {l : List Int} (h : Owns B rs w) (hr : intRow e .i64 (.slice A l.length c) l ∈ rs) : ∃ G', Seen w G' A (ints .i64 l) := ⟨_, (row_in h hr).1⟩
set_option maxHeartbeats 1000000 in
/-- A table appended as bytes. -/
theorem appTab_any (out cs syms : List Int) (A : Option Addr) (c G : Nat) (rs : List Row) (v : Value) (B : Nat) (w : World) (HO : Owns B (byteRow v out :: rs) w) (ht : TabIs cs syms) (hs : Seen w G A (ints .i64 syms)) (hG : G ≤ B) (h1 : out.length ≤ 90000) :
    Calls Try.prog 27 #[v, tabV cs A syms.length c] w fun e w' => ∃ v', e = .returned v' ∧ Owns B (byteRow v' (out ++ tabB cs syms) :: rs) w' ∧ Below B w w' := by
  have hBw := HO.base
  have h17 := tabCells_length (A := A) (n := syms.length) (c := c) ht.len
  have hr0 := range_new w (tabCells cs A syms.length c) 27
  have hb0 := (below1 w (.cells (tabCells cs A syms.length c).toArray 27)).mono hBw
  have HO0 : Hid (Owns B (byteRow v out :: tabRow w.heap.size (tabCells cs A syms.length c) :: rs) (w.alloc (.cells (tabCells cs A syms.length c).toArray 27))) :=
    veil ((HO.call (below1 w _) (laid_own w 27 17 1 (tabCells cs A syms.length c) (by rw [h17]) (by unfold maxLen; omega))).swap)
  have hz0 : (w.alloc (.cells (tabCells cs A syms.length c).toArray 27)).heap.size = w.heap.size + 1 := by simp
  obtain ⟨W0, hW0⟩ : ∃ W0, W0 = w.alloc (.cells (tabCells cs A syms.length c).toArray 27) := ⟨_, rfl⟩
  have HT : Blk W0 w.heap.size (tabCells cs A syms.length c) 27 := by rw [hW0]; exact Blk.new w _ _
  rw [← hW0] at hr0 hb0 HO0 hz0
  have H16 : Hid ((tabCells cs A syms.length c)[16]? = some (.slice A syms.length c)) := tabCells_last ht.len
  have hrc := range_left hr0
  have Hcv : Hid ((ints .i64 cs).length = 16) := by show _ = _; rw [ints_length, ht.len]
  have Hcat : Hid (∀ (k : Nat) (x : Int), cs[k]? = some x → (ints .i64 cs)[k]? = some (.int .i64 x)) := fun _ _ h => ints_at h
  have Ht := veil ht
  have Hs := veil (hs.below hb0 hG)
  have Hb0 := veil hb0
  have HW0 := veil hW0
  have HI0 : Hid (out = out ++ w2s (cs.take 0)) := by show _ = _; simp [w2s]
  have Hbr0 : Hid (Below B W0 W0) := Below.refl _ _
  have hBW : B ≤ w.heap.size := hBw
  clear HO ht hs hb0 hW0 hr0 hBw
  unfold tabV
  generalize tabCells cs A syms.length c = zs at *
  obtain ⟨cv, hcv⟩ : ∃ cv, cv = ints .i64 cs := ⟨_, rfl⟩
  rw [← hcv] at Hcv Hcat hrc
  clear hcv
  go_enter Try.func27, Try.ntmps27
  go_upto_region 1 with fail
  rw [← HW0.out]
  clear HW0
  go_wp2_with (first
    | (refine wpList_load_mid rfl 24 (.tmp 7) rfl w.heap.size 0 rfl cv _ hrc Try.underlying24 rfl (by rw [Hcv.out]; exact info_arr) ?_)
    | fail)
  go_loopg [0, 6, 9] 16 (fun gk ov nv iv wr => ∃ (k : Nat) (o : List Int), gk = 16 - k ∧ k ≤ 16 ∧ iv = .int .i64 (k : Int) ∧ Hid (o = out ++ w2s (cs.take k)) ∧ o.length = out.length + 2 * k ∧ Hid (Owns B (byteRow ov o :: tabRow w.heap.size zs :: rs) wr) ∧ Hid (Below B W0 wr))
  case atStart => exact ⟨0, out, rfl, by omega, rfl, HI0, rfl, HO0, Hbr0⟩
  case round =>
    clear HI0 HO0 Hbr0
    obtain ⟨k, o, rfl, hk, rfl, HI, hol, HOo, Hb⟩ := hrel
    by_cases hlt : k < 16
    · have hltz : (k : Int) < 16 := by omega
      obtain ⟨x, hx⟩ := some_at (xs := cs) (j := k) (by rw [Ht.out.len]; exact hlt)
      have hxs := Hcat.out _ _ hx
      have hx8 := Ht.out.pos x (List.mem_of_getElem? hx)
      have HI2 : Hid (o ++ [x / 256, x % 256] = out ++ w2s (cs.take (k + 1))) := by show _ = _; rw [w2s_snoc hx, HI.out, List.append_assoc]
      clear hx HI
      have e255 := and_255 x hx8.1 hx8.2
      have hmod : 0 ≤ x / 256 ∧ x / 256 ≤ 255 ∧ 0 ≤ x % 256 ∧ x % 256 ≤ 255 := by omega
      go_wp2_with (first
        | (refine wpList_index_arr rfl 24 (.tmp 8) (.tmp 9) rfl 16 3 .i64 Try.underlying24 Try.underlying3 (by kernel_rfl) cv rfl .i64 k rfl (.int .i64 x) hlt hxs ?_)
        | fail)
      have hla := laid_own wr 3 1 2 (ints .i64 [x / 256, x % 256]) rfl (by unfold maxLen; omega)
      have hba := below1 wr (.cells (ints .i64 [x / 256, x % 256]).toArray 3)
      have HOa := HOo.out.call hba hla
      have HOb : Owns B (byteRow u0 o :: intRow 3 .i64 (.slice (some ⟨wr.heap.size, 0, none⟩) 2 2) [x / 256, x % 256] :: tabRow w.heap.size zs :: rs) (wr.alloc (.cells (ints .i64 [x / 256, x % 256]).toArray 3)) := HOa.swap
      have hc := appNums_any o [x / 256, x % 256] (intRow 3 .i64 (.slice (some ⟨wr.heap.size, 0, none⟩) 2 2) [x / 256, x % 256] :: tabRow w.heap.size zs :: rs) u0 (some ⟨wr.heap.size, 0, none⟩) 2 B _ HOb (fun w' _ h => rowSeen h (e := 3) (c := 2) (by simp)) (by simp; omega) (by omega) (by simp)
      refine hc.mono ?_
      rintro e w6 ⟨v6, rfl, HO6, hb6⟩
      have hbw : Below B wr w6 := (hba.mono (by have := HOo.out.base; omega)).trans hb6
      have HO7 := HO6.swap.tail
      have Hb7 := veil (Hb.out.trans hbw)
      have HO8 : Hid (Owns B (byteRow v6 (o ++ [x / 256, x % 256]) :: tabRow w.heap.size zs :: rs) w6) := (HO6.swap).tail
      clear hla hba HOa HOb hc HO6 hb6 hbw e255 Hb HOo HO7
      go_wp2_with fail
      go_roundg (16 - (k + 1))
      case rel => exact ⟨k + 1, o ++ [x / 256, x % 256], rfl, by omega, by go_num, HI2, by simp; omega, HO8, Hb7⟩
      case measure => omega
    · obtain rfl : k = 16 := by omega
      have hh := HI.out
      rw [List.take_of_length_le (by rw [Ht.out.len]; omega)] at hh
      have HF : Hid (o ++ syms = out ++ tabB cs syms) := by show _ = _; rw [hh]; simp [tabB]
      have k16 : wr.cell? ⟨w.heap.size, 16, none⟩ = some (.slice A syms.length c) := by
        have h9 := rowAt HOo.out (List.mem_cons_of_mem _ (List.mem_cons_self ..)) 16 _ H16.out
        simpa using h9
      have hs9 := Hs.out.below Hb.out hG
      have hc := appNums_any o syms (tabRow w.heap.size zs :: rs) u0 A c B wr HOo.out (fun w' hb _ => ⟨G, hs9.below hb hG⟩) Ht.out.sym (by omega) (by have := Ht.out.few; omega)
      have Hc := veil hc
      clear hh HI hlt hs9 hc
      go_wp2_with fail
      refine Hc.out.mono ?_
      rintro e w6 ⟨v6, rfl, HO6, hb6⟩
      go_wp2_with fail
      go_ret
      exact ⟨_, rfl, by rw [← HF.out]; exact HO6.swap.tail, (Hb0.out.trans Hb.out).trans hb6⟩
set_option maxRecDepth 100000 in
set_option maxHeartbeats 2000000 in
theorem filePack_any : FPackSpec := by
  intro f A c A2 c2 A3 c3 G w hf hG
  have hlen := fileCells_length hf.form A c A2 c2 A3 c3
  have hb0 := below1 w (.cells (fileCells f A c A2 c2 A3 c3).toArray 32)
  have hz0 : (w.alloc (.cells (fileCells f A c A2 c2 A3 c3).toArray 32)).heap.size = w.heap.size + 1 := by simp
  have hr0 := range_new w (fileCells f A c A2 c2 A3 c3) 32
  have hat := fileAt_of hf.form hr0
  have HC := veil (fun W (h : FileIn f A c A2 c2 A3 c3 G W) hG => fileCheck_any f A c A2 c2 A3 c3 G W h hG)
  have HZ := veil (fun W => to_any f.q W hf.form.q)
  have Hq : Hid ((ints .i64 f.q).length = 64) := by show _ = _; rw [ints_length, hf.form.q]
  have Hzl : Hid ((toL f.q).length = 64) := by show _ = _; rw [toL, toK_length]
  obtain ⟨E, hE⟩ : ∃ E, E = eFile f := ⟨_, rfl⟩
  obtain ⟨O, hO⟩ : ∃ O, O = oPack f := ⟨_, rfl⟩
  rw [← hE, ← hO]
  have HOe : Hid (E ≠ 0 → O = []) := by show _ → _; intro h; rw [hO]; exact if_neg (by rw [← hE]; exact h)
  have HOk : Hid (E = 0 → O = packF f) := by show _ → _; intro h; rw [hO]; exact if_pos (by rw [← hE]; exact h)
  have HPk : Hid (E = 0 → PackIs f) := by show _ → _; intro h; exact packIs_of hf.form (by rw [← hE]; exact h) hf.bytes
  have L1 := veil (tabCells_length (A := A) (n := f.syms.length) (c := c) hf.form.cs)
  have L2 := veil (tabCells_length (A := A2) (n := f.syms2.length) (c := c2) hf.form.cs2)
  have Hf := veil hf
  have Hlen := veil hlen
  have HAt := veil hat
  rw [← hE] at HC
  clear hlen hat hf hE hO
  unfold fileV at HC ⊢
  unfold blkV at HZ
  generalize fileCells f A c A2 c2 A3 c3 = zs at *
  go_enter Try.func11, Try.ntmps11
  go_wp2_with (first
    | (refine wpList_load_mid rfl 32 (.tmp 1) rfl w.heap.size 0 rfl zs _ hr0 Try.underlying32 rfl (by rw [Hlen.out]; kernel_rfl) ?_)
    | fail)
  refine (HC.out _ (Hf.out.below hb0 hG) (by rw [hz0]; omega)).mono ?_
  rintro e w1 ⟨rfl, hb1⟩
  have hz1 := hb1.size
  rw [hz0] at hz1
  have hbw1 := hb0.trans (hb1.mono (by rw [hz0]; omega))
  have HAt1 := veil (HAt.out.below hb1 (by rw [hz0]; omega))
  clear hb0 hb1 hr0 HC HAt
  by_cases h0 : E = 0
  · have hp := HPk.out h0
    have hO := HOk.out h0
    subst h0
    have Hp := veil hp
    have HO := veil hO
    have hcv : (convert 30 30 (.slice (some ⟨w1.heap.size, 0, none⟩) 2 2)).run Try.prog (w1.alloc (.cells #[.int .u8 77, .int .u8 90] 5)) = .ok (.slice (some ⟨w1.heap.size, 0, none⟩) 2 2) (w1.alloc (.cells #[.int .u8 77, .int .u8 90] 5 (2, 3))) :=
      Lib.run_convert_bytes_const w1 30 5 #[.int .u8 77, .int .u8 90] 2 2 Try.underlying30 Try.underlying5
    have Hhead : Hid (headF f = [77, 90] ++ [f.wide, f.high, f.parts, f.every] ++ toL f.q) := rfl
    have Hp0 : Hid (partF f 0 = headF f) := partF_0 f
    have Hp1 : Hid (partF f 1 = partF f 0 ++ tabB f.cs f.syms) := partF_next f (k := 0) (by omega)
    have Hp2 : Hid (partF f 2 = partF f 1 ++ tabB f.cs2 f.syms2) := partF_next f (k := 1) (by omega)
    clear hp hO HPk HOk HOe
    go_upto_region 5 with fail
    obtain ⟨W2, hW2⟩ : ∃ W2, W2 = w1.alloc (.cells #[.int .u8 77, .int .u8 90] 5 (2, 3)) := ⟨_, rfl⟩
    have hz2 : W2.heap.size = w1.heap.size + 1 := by rw [hW2]; simp
    have hb2 : Below w1.heap.size w1 W2 := by rw [hW2]; exact below1 w1 _
    have hc2 : ∀ j u, (ints .u8 [77, 90])[j]? = some u → W2.cell? ((⟨w1.heap.size, 0, none⟩ : Addr).add j) = some u := fun j u hu => by
      rw [hW2, addr_add, Nat.zero_add, World.cell?_alloc_mark]; simpa [ints] using hu
    rw [← hW2]
    obtain ⟨B, hB⟩ : ∃ B, B = w1.heap.size := ⟨_, rfl⟩
    rw [← hB] at hb2 hc2 ⊢
    have hBw : w.heap.size < B := by omega
    have hO2 : Owns B [] W2 := .nil (by omega)
    have HAt2 := veil (HAt1.out.below hb2 hBw)
    have Hbw2 := veil (hbw1.trans (hb2.mono (by omega)))
    obtain ⟨wide, hwide⟩ : ∃ x, x = f.wide := ⟨_, rfl⟩
    obtain ⟨high, hhigh⟩ : ∃ x, x = f.high := ⟨_, rfl⟩
    obtain ⟨parts, hparts⟩ : ∃ x, x = f.parts := ⟨_, rfl⟩
    obtain ⟨every, hevery⟩ : ∃ x, x = f.every := ⟨_, rfl⟩
    have k1 := HAt2.out.wide; have k2 := HAt2.out.high; have k3 := HAt2.out.parts; have k4 := HAt2.out.every
    have i1 := Hp.out.wide; have i2 := Hp.out.high; have i3 := Hp.out.parts; have i4 := Hp.out.every
    rw [← hwide] at k1 i1 Hhead
    rw [← hhigh] at k2 i2 Hhead
    rw [← hparts] at k3 i3 Hhead
    rw [← hevery] at k4 i4 Hhead
    have Hc3 : Hid (Calls Try.prog 25 #[.slice (some ⟨B, 0, none⟩) 2 2, .slice (some ⟨W2.heap.size, 0, none⟩) 4 4] (W2.alloc (.cells #[.int .i64 wide, .int .i64 high, .int .i64 parts, .int .i64 every] 3)) fun e w' => ∃ v', e = .returned v' ∧ Owns B [byteRow v' ([77, 90] ++ [wide, high, parts, every])] w' ∧ Below B W2 w') := by
      show Calls _ _ _ _ _
      have hla := laid_own W2 3 1 4 (ints .i64 [wide, high, parts, every]) rfl (by unfold maxLen; omega)
      have hba := below1 W2 (.cells (ints .i64 [wide, high, parts, every]).toArray 3)
      have HOa := hO2.call hba hla
      have hc := appNums_gen [77, 90] [wide, high, parts, every] [intRow 3 .i64 (.slice (some ⟨W2.heap.size, 0, none⟩) 4 4) [wide, high, parts, every]] (.slice (some ⟨B, 0, none⟩) 2 2) (some ⟨W2.heap.size, 0, none⟩) 4 B _ (.inr ⟨HOa, ⟨B, 0, none⟩, rfl, fun j u hu => (World.grownBy_alloc W2 _ none).cell (hc2 j u hu) (by simp)⟩) (.inl (by simp)) (fun w' _ h => rowSeen h (e := 3) (c := 4) (by simp)) (by simp; omega) (by simp) (by simp)
      refine hc.mono ?_
      rintro e w6 ⟨v6, rfl, HO6, hb6⟩
      exact ⟨v6, rfl, HO6.swap.tail, (hba.mono (by omega)).trans hb6⟩
    rw [hz2] at Hc3
    clear hW2 hwide hhigh hparts hevery i1 i2 i3 i4 hO2 hc2 HAt1 hB hbw1
    go_wp2_with fail
    refine Hc3.out.mono ?_
    rintro e w3 ⟨v3, rfl, HO3, hb3⟩
    have hz3 := hb3.size
    have HAt3 := veil (HAt2.out.below hb3 hBw)
    have Hbw3 := veil (Hbw2.out.trans (hb3.mono (by omega)))
    have hrq := HAt3.out.q
    have HO3' := veil HO3
    clear HAt2 Hbw2 HO3 hb3 Hc3 k1 k2 k3 k4
    go_wp2_with (first
      | (refine wpList_load_mid rfl 23 (.tmp 25) rfl w.heap.size 3 rfl (ints .i64 f.q) _ hrq Try.underlying23 rfl (info_blkn Hq.out) ?_)
      | fail)
    refine (HZ.out w3).mono ?_
    rintro e w4 ⟨rfl, hb4⟩
    have hz4 := hb4.size
    have Hzv : Hid ((ints .i64 (toL f.q)).length = 64) := by show _ = _; rw [ints_length, Hzl.out]
    have Hzo : Hid (∀ u ∈ ints .i64 (toL f.q), u.oneCell' = true) := veil ints_one
    have Hzm := veil (Hp.out.z)
    have HO4 := veil (HO3'.out.below hb4)
    have HAt4 := veil (HAt3.out.below hb4 (by omega))
    have Hbw4 := veil (Hbw3.out.trans (hb4.mono (by omega)))
    obtain ⟨zl, hzl⟩ : ∃ zl, zl = toL f.q := ⟨_, rfl⟩
    rw [← hzl] at Hzl Hzv Hzo Hzm Hhead ⊢
    have hoQ := HO4.out.call (below1 w4 (.cells (ints .i64 zl).toArray 23)) (laid_own w4 23 1 64 (ints .i64 zl) (by rw [Hzv.out]) (by unfold maxLen; omega))
    have hbQ := (below1 w4 (.cells (ints .i64 zl).toArray 23)).mono HO4.out.base
    have hzQ : (w4.alloc (.cells (ints .i64 zl).toArray 23)).heap.size = w4.heap.size + 1 := by simp
    have HO5 : Hid (Owns B [byteRow v3 ([77, 90] ++ [wide, high, parts, every]), intRow 23 .i64 (.slice (some ⟨w4.heap.size, 0, none⟩) zl.length 64) zl] (w4.alloc (.cells (ints .i64 zl).toArray 23))) := by
      show Owns _ _ _
      have h9 := hoQ.swap
      unfold intRow
      rw [Hzl.out]; exact h9
    have Hc5 := veil (appNums_any ([77, 90] ++ [wide, high, parts, every]) zl _ v3 (some ⟨w4.heap.size, 0, none⟩) 64 B _ HO5.out (fun w' _ h => rowSeen h (e := 23) (c := 64) (by simp)) Hzm.out (by simp) (by rw [Hzl.out]; omega))
    rw [Hzl.out] at Hc5
    have HAt5 := veil (HAt4.out.below hbQ hBw)
    have Hbw5 := veil (Hbw4.out.trans (hbQ.mono (by omega)))
    obtain ⟨zv, hzv⟩ : ∃ zv, zv = ints .i64 zl := ⟨_, rfl⟩
    rw [← hzv] at Hzv Hzo Hc5 HAt5 Hbw5 hzQ ⊢
    clear HO5 hoQ hbQ HO4 HAt4 Hbw4 HO3' HAt3 Hbw3 hrq HZ hb4 hzl hzv
    go_wp2_with (first
      | (refine wpList_store_new w4 rfl 23 (.tmp 6) (.tmp 27) rfl _ zv rfl rfl (info_blkn Hzv.out) (by rw [Hzv.out]; rfl) Hzo.out ?_)
      | fail)
    refine Hc5.out.mono ?_
    rintro e w6 ⟨v6, rfl, HO6, hb6⟩
    have hz6 := hb6.size
    have hh : [77, 90] ++ [wide, high, parts, every] ++ zl = partF f 0 := by rw [Hp0.out, Hhead.out]
    rw [hh] at HO6
    have HO6' := veil HO6.swap.tail
    have HAt6 := veil (HAt5.out.below hb6 hBw)
    have Hbw6 := veil (Hbw5.out.trans (hb6.mono (by omega)))
    have Hf6 := veil (Hf.out.below Hbw6.out hG)
    have hl0 : (partF f 0).length = 70 := by rw [Hp0.out, headF_length]
    have rt1 := range_left HAt6.out.tabs
    have Hc7 := veil (appTab_any (partF f 0) f.cs f.syms A c G [] v6 B w6 HO6'.out Hp.out.t1 Hf6.out.see (by omega) (by omega))
    unfold tabV at Hc7
    obtain ⟨t1, ht1⟩ : ∃ t1, t1 = tabCells f.cs A f.syms.length c := ⟨_, rfl⟩
    rw [← ht1] at Hc7 rt1 L1
    have HT1 := veil ht1
    clear HO6 hh HAt5 Hbw5 hb6 Hc5 Hzo Hzv Hzm ht1
    go_wp2_with (first
      | (refine wpList_load_mid rfl 27 (.tmp 33) rfl w.heap.size 67 rfl t1 _ rt1 Try.underlying27 rfl (by rw [L1.out]; exact info_tab) ?_)
      | fail)
    refine Hc7.out.mono ?_
    rintro e w7 ⟨v7, rfl, HO7, hb7⟩
    rw [← Hp1.out] at HO7
    have HO7' := veil HO7
    have HAt7 := veil (HAt6.out.below hb7 hBw)
    have Hbw7 := veil (Hbw6.out.trans (hb7.mono (by omega)))
    have Hf7 := veil (Hf.out.below Hbw7.out hG)
    have hl1 : (partF f 1).length ≤ 400 := by rw [Hp1.out, List.length_append, tabB_length _ Hp.out.t1.len]; have := Hp.out.t1.few; omega
    have rt2 := range_right HAt7.out.tabs
    rw [← HT1.out, L1.out] at rt2
    have Hc8 := veil (appTab_any (partF f 1) f.cs2 f.syms2 A2 c2 G [] v7 B w7 HO7'.out Hp.out.t2 Hf7.out.see2 (by omega) (by omega))
    unfold tabV at Hc8
    obtain ⟨t2, ht2⟩ : ∃ t2, t2 = tabCells f.cs2 A2 f.syms2.length c2 := ⟨_, rfl⟩
    rw [← ht2] at Hc8 rt2 L2
    clear HO7 HAt6 Hbw6 hb7 Hc7 rt1 ht2
    go_wp2_with (first
      | (refine wpList_load_mid rfl 27 (.tmp 38) rfl w.heap.size 84 rfl t2 _ rt2 Try.underlying27 rfl (by rw [L2.out]; exact info_tab) ?_)
      | fail)
    refine Hc8.out.mono ?_
    rintro e w8 ⟨v8, rfl, HO8, hb8⟩
    rw [← Hp2.out] at HO8
    have HO8' := veil HO8
    have HAt8 := veil (HAt7.out.below hb8 hBw)
    have Hbw8 := veil (Hbw7.out.trans (hb8.mono (by omega)))
    have hl2 : (partF f 2).length ≤ 800 := by rw [Hp2.out, List.length_append, tabB_length _ Hp.out.t2.len]; have := Hp.out.t2.few; omega
    have hs3 := ((Hf.out.below Hbw8.out hG).see3).up (show G ≤ w8.heap.size by have := Hbw8.out.size; omega)
    have k5 := HAt8.out.data
    have hdl := Hp.out.data
    have hf2 := partF_2 f
    rw [← HO.out] at hf2
    have HF := veil hf2
    clear HO8 HAt7 Hbw7 hb8 Hc8 rt2 hf2
    go_wp2_with (first
      | (at_builtin; go_loud (refine wpList_ownV w8 rfl (.tmp 41) (.tmp 43) _ rfl B 5 1 1 elem_byte v8 (partF f 2).length (ints .u8 (partF f 2)) [] rfl HO8'.out w8.heap.size A3 f.data.length c3 (ints .u8 f.data) rfl hs3 (by rw [ints_length]; omega) ints_one (by unfold maxLen; omega) (by omega) ?_); intro v9 w9 HO9 hb9)
      | fail)
    have hfin := Hbw8.out.trans (hb9.mono (by omega))
    go_ret2
    exact ⟨_, rfl, by rw [intRow_append, HF.out] at HO9; exact HO9.down (by omega), hfin⟩
  · have hO := HOe.out h0
    have HO := veil hO
    have hne : (E != 0) = true := by simpa using h0
    clear hO h0
    go_wp2_with fail
    go_ret2
    exact ⟨_, rfl, by rw [HO.out]; exact (Owns.nil hbw1.size).fresh _ _, hbw1⟩
end Go.Proofs.Ytmdjhbkpekepgaa

/- What file's reader reads, in numbers: also where the bytes end too soon. -/
namespace Go.Proofs.Ytmdjhbkpekepgaa
open Go.RowKit
set_option linter.unusedVariables false
set_option linter.unusedSimpArgs false
set_option maxRecDepth 100000

/-- Bytes as a number. -/
def numL (l : List Int) : Int := l.foldl (fun n x => 256 * n + x) 0
theorem numL_snoc (l : List Int) (x : Int) : numL (l ++ [x]) = 256 * numL l + x := by simp [numL, List.foldl_append]
theorem numL_one (l : List Int) : numL (l.take 1) = l.getD 0 0 := by cases l <;> simp [numL]
theorem numL_two {l : List Int} (h : 2 ≤ l.length) : numL (l.take 2) = 256 * l.getD 0 0 + l.getD 1 0 := by
  match l, h with
  | a :: b :: l, _ => simp [numL]
theorem numL_bnd {l : List Int} (h : Bytes l) (hl : l.length ≤ 2) : 0 ≤ numL l ∧ numL l ≤ 65535 := by
  match l, hl with
  | [], _ => simp [numL]
  | [a], _ => have := h a (by simp); simp [numL]; omega
  | [a, b], _ => have := h a (by simp); have := h b (by simp); simp [numL]; omega
theorem Bytes.drop' {l : List Int} (h : Bytes l) (n : Nat) : Bytes (l.drop n) := fun x hx => h x (List.mem_of_mem_drop hx)
theorem Bytes.take' {l : List Int} (h : Bytes l) (n : Nat) : Bytes (l.take n) := fun x hx => h x (List.mem_of_mem_take hx)
/-- A table's counts, as they are read. -/
def cntR (r : List Int) : List Int := (List.range 16).map fun j => numL ((r.drop (2 * j)).take 2)
theorem cntR_length (r : List Int) : (cntR r).length = 16 := by simp [cntR]
theorem cntR_at (r : List Int) {j : Nat} (hj : j < 16) : (cntR r)[j]? = some (numL ((r.drop (2 * j)).take 2)) := by
  unfold cntR; rw [List.getElem?_map, List.getElem?_range hj]; rfl
theorem cntR_is {r : List Int} (h : 32 ≤ r.length) : cntR r = cntN 16 r := by
  unfold cntR cntN
  refine List.map_congr_left fun j hj => ?_
  have h1 := List.mem_range.1 hj
  rw [numL_two (by rw [List.length_drop]; omega)]
  simp [List.getD_eq_getElem?_getD, List.getElem?_drop]
theorem cntR_bnd {r : List Int} (h : Bytes r) : ∀ x ∈ cntR r, 0 ≤ x ∧ x ≤ 65535 := by
  intro x hx
  obtain ⟨j, _, rfl⟩ := List.mem_map.1 hx
  exact numL_bnd ((h.drop' _).take' 2) (by rw [List.length_take]; omega)
theorem sumW_bnd {l : List Int} (h : ∀ x ∈ l, 0 ≤ x ∧ x ≤ 65535) : 0 ≤ sumW l ∧ sumW l ≤ 65535 * l.length := by
  induction l with
  | nil => simp [sumW]
  | cons x l ih => have h1 := h x (by simp); have h2 := ih fun y hy => h y (by simp [hy]); simp only [sumW, List.foldr_cons, List.length_cons] at h2 ⊢; omega
def lenR (r : List Int) : Nat := (sumW (cntR r)).toNat
theorem lenR_is {r : List Int} (h : Bytes r) : (lenR r : Int) = sumW (cntR r) ∧ lenR r ≤ 1048560 := by
  have h1 := sumW_bnd (cntR_bnd h)
  rw [cntR_length] at h1
  unfold lenR; omega
/-- A table's symbols; what is left behind it; whether it is cut off. -/
def symR (r : List Int) : List Int := (r.drop 32).take (lenR r)
def restR (r : List Int) : List Int := r.drop (32 + lenR r)
def shortR (r : List Int) : Bool := decide (r.length < 32 + lenR r)
theorem short_next (s : Bool) {n m : Nat} (r : List Int) (hm : 0 < m) : (s || decide (r.length < n) || decide ((r.drop n).length < m)) = (s || decide (r.length < n + m)) := by
  rw [List.length_drop]
  cases s
  · simp only [Bool.false_or, ← Bool.decide_or]; congr 1; apply propext; omega
  · simp
theorem short_tab (s : Bool) (r : List Int) : (s || decide (r.length < 32) || decide ((r.drop 32).length < lenR r)) = (s || shortR r) := by
  rw [List.length_drop]
  unfold shortR
  cases s
  · simp only [Bool.false_or, ← Bool.decide_or]; congr 1; apply propext; omega
  · simp
/-- What file reads behind the first two bytes. -/
def qR (r : List Int) : List Int := (List.range 64).map fun i => r.getD (4 + i) 0
theorem qR_length (r : List Int) : (qR r).length = 64 := by simp [qR]
theorem qR_is {r : List Int} (h : 68 ≤ r.length) : qR r = (r.drop 4).take 64 := by
  apply List.ext_getElem?
  intro i
  unfold qR
  rw [List.getElem?_map, List.getElem?_take, List.getElem?_drop]
  by_cases hi : i < 64
  · rw [List.getElem?_range hi, if_pos hi, Option.map_some, getD_some (by omega)]
  · rw [if_neg hi, List.getElem?_eq_none (by simp; omega)]; rfl
def fileR (r : List Int) : FileL :=
  { wide := r.getD 0 0, high := r.getD 1 0, parts := r.getD 2 0, q := fromL (qR r), cs := cntR (r.drop 68), syms := symR (r.drop 68),
    cs2 := cntR (restR (r.drop 68)), syms2 := symR (restR (r.drop 68)), every := r.getD 3 0, data := restR (restR (r.drop 68)) }
def fshortR (s : Bool) (r : List Int) : Bool := s || decide (r.length < 68) || shortR (r.drop 68) || shortR (restR (r.drop 68))
theorem fileR_form (r : List Int) : (fileR r).Form := ⟨fromK_length _ _, cntR_length _, cntR_length _⟩
theorem drop_getD (r : List Int) (n i : Nat) : (r.drop n).getD i 0 = r.getD (n + i) 0 := by simp [List.getD_eq_getElem?_getD, List.getElem?_drop]
theorem parts_of {bs : List Int} (h : fshortR (decide (bs.length < 2)) (bs.drop 2) = false) : ¬ shortF bs ∧ fileR (bs.drop 2) = readF bs ∧ 70 ≤ bs.length := by
  unfold fshortR shortR at h
  simp only [Bool.or_eq_false_iff, decide_eq_false_iff_not] at h
  obtain ⟨⟨⟨h1, h2⟩, h3⟩, h4⟩ := h
  have e0 : (bs.drop 2).drop 68 = bs.drop 70 := by rw [List.drop_drop]
  rw [e0] at h3 h4
  rw [List.length_drop] at h2 h3
  have c1 : cntR (bs.drop 70) = cntN 16 (bs.drop 70) := cntR_is (by rw [List.length_drop]; omega)
  have l1 : lenR (bs.drop 70) = n1F bs := by unfold lenR n1F; rw [c1]
  rw [l1] at h3
  have r1 : restR (bs.drop 70) = bs.drop (102 + n1F bs) := by unfold restR; rw [l1, List.drop_drop]; congr 1; omega
  rw [r1] at h4
  rw [List.length_drop] at h4
  have c2 : cntR (bs.drop (102 + n1F bs)) = cntN 16 (bs.drop (102 + n1F bs)) := cntR_is (by rw [List.length_drop]; omega)
  have l2 : lenR (bs.drop (102 + n1F bs)) = n2F bs := by unfold lenR n2F; rw [c2]
  rw [l2] at h4
  refine ⟨by unfold shortF; omega, ?_, by omega⟩
  unfold fileR readF
  rw [e0, r1, c1, c2]
  unfold symR restR
  rw [l1, l2, qR_is (by rw [List.length_drop]; omega)]
  simp only [drop_getD, List.drop_drop]
  congr 1
  · congr 1; congr 1; omega
  · congr 1; omega
theorem short_of {bs : List Int} (h : fshortR (decide (bs.length < 2)) (bs.drop 2) = true) : shortF bs := by
  have e0 : (bs.drop 2).drop 68 = bs.drop 70 := by rw [List.drop_drop]
  unfold fshortR shortR at h
  rw [e0] at h
  by_cases h70 : bs.length < 102
  · exact .inl h70
  have c1 : cntR (bs.drop 70) = cntN 16 (bs.drop 70) := cntR_is (by rw [List.length_drop]; omega)
  have l1 : lenR (bs.drop 70) = n1F bs := by unfold lenR n1F; rw [c1]
  have r1 : restR (bs.drop 70) = bs.drop (102 + n1F bs) := by unfold restR; rw [l1, List.drop_drop]; congr 1; omega
  rw [l1, r1] at h
  by_cases h71 : bs.length < 102 + n1F bs
  · exact .inr (.inl h71)
  by_cases h72 : bs.length < 134 + n1F bs
  · exact .inr (.inr (.inl h72))
  have c2 : cntR (bs.drop (102 + n1F bs)) = cntN 16 (bs.drop (102 + n1F bs)) := cntR_is (by rw [List.length_drop]; omega)
  have l2 : lenR (bs.drop (102 + n1F bs)) = n2F bs := by unfold lenR n2F; rw [c2]
  rw [l2] at h
  simp only [Bool.or_eq_true, decide_eq_true_eq, List.length_drop] at h
  exact .inr (.inr (.inr (by omega)))
/-- Counts made of bytes are their bytes. -/
theorem w2s_cntN : ∀ (n : Nat) (l : List Int), Bytes l → 2 * n ≤ l.length → w2s (cntN n l) = l.take (2 * n)
  | 0, l, _, _ => by simp [cntN, w2s]
  | n + 1, l, hb, hl => by
    have e : cntN (n + 1) l = cntN n l ++ [256 * l.getD (2 * n) 0 + l.getD (2 * n + 1) 0] := by unfold cntN; rw [List.range_succ, List.map_append]; rfl
    have g1 := getD_some (cs := l) (k := 2 * n) (by omega)
    have g2 := getD_some (cs := l) (k := 2 * n + 1) (by omega)
    have b1 := hb _ (List.mem_of_getElem? g1)
    have b2 := hb _ (List.mem_of_getElem? g2)
    rw [e, w2s_app, w2s_cntN n l hb (by omega), show 2 * (n + 1) = 2 * n + 1 + 1 by omega, take_snoc g2, take_snoc g1, List.append_assoc]
    congr 1
    show [(256 * l.getD (2 * n) 0 + l.getD (2 * n + 1) 0) / 256, (256 * l.getD (2 * n) 0 + l.getD (2 * n + 1) 0) % 256] = [l.getD (2 * n) 0, l.getD (2 * n + 1) 0]
    congr 1
    · omega
    · congr 1; omega
theorem take_add' (l : List Int) (n m : Nat) : l.take (n + m) = l.take n ++ (l.drop n).take m := by rw [List.take_add]
theorem pack_read {bs : List Int} (hb : Bytes bs) (h : ¬ shortF bs) (h2 : bs.take 2 = [77, 90]) : packF (readF bs) = bs := by
  unfold shortF at h
  have e1 : w2s (cntN 16 (bs.drop 70)) = (bs.drop 70).take 32 := w2s_cntN 16 _ (hb.drop' _) (by rw [List.length_drop]; omega)
  have e2 : w2s (cntN 16 (bs.drop (102 + n1F bs))) = (bs.drop (102 + n1F bs)).take 32 := w2s_cntN 16 _ (hb.drop' _) (by rw [List.length_drop]; omega)
  have hq : toL (fromL ((bs.drop 6).take 64)) = (bs.drop 6).take 64 := to_from (by rw [List.length_take, List.length_drop]; omega)
  have hh : headF (readF bs) = bs.take 70 := by
    have g : ∀ i, i < 70 → bs[i]? = some (bs.getD i 0) := fun i hi => getD_some (by omega)
    have t6 : bs.take 6 = [77, 90, bs.getD 2 0, bs.getD 3 0, bs.getD 4 0, bs.getD 5 0] := by
      rw [take_snoc (g 5 (by omega)), take_snoc (g 4 (by omega)), take_snoc (g 3 (by omega)), take_snoc (g 2 (by omega)), h2]; rfl
    show [77, 90, bs.getD 2 0, bs.getD 3 0, bs.getD 4 0, bs.getD 5 0] ++ toL (fromL ((bs.drop 6).take 64)) = _
    rw [hq, ← t6, show (70 : Nat) = 6 + 64 from rfl, take_add']
  have d1 : bs.drop 70 = (bs.drop 70).take 32 ++ bs.drop 102 := by have := List.take_append_drop 32 (bs.drop 70); rw [List.drop_drop] at this; exact this.symm
  have d2 : bs.drop 102 = (bs.drop 102).take (n1F bs) ++ bs.drop (102 + n1F bs) := by have := List.take_append_drop (n1F bs) (bs.drop 102); rw [List.drop_drop] at this; exact this.symm
  have d3 : bs.drop (102 + n1F bs) = (bs.drop (102 + n1F bs)).take 32 ++ bs.drop (134 + n1F bs) := by
    have := List.take_append_drop 32 (bs.drop (102 + n1F bs)); rw [List.drop_drop, show 102 + n1F bs + 32 = 134 + n1F bs by omega] at this; exact this.symm
  have d4 : bs.drop (134 + n1F bs) = (bs.drop (134 + n1F bs)).take (n2F bs) ++ bs.drop (134 + n1F bs + n2F bs) := by have := List.take_append_drop (n2F bs) (bs.drop (134 + n1F bs)); rw [List.drop_drop] at this; exact this.symm
  rw [packF, hh]
  unfold tabB
  show bs.take 70 ++ ((w2s (cntN 16 (bs.drop 70)) ++ (bs.drop 102).take (n1F bs)) ++ ((w2s (cntN 16 (bs.drop (102 + n1F bs))) ++ (bs.drop (134 + n1F bs)).take (n2F bs)) ++ bs.drop (134 + n1F bs + n2F bs))) = bs
  rw [e1, e2]
  have e4 := List.take_append_drop 70 bs
  rw [d1, d2, d3, d4] at e4
  simp only [List.append_assoc] at e4 ⊢
  exact e4
theorem pack_head {bs : List Int} (h : packF (readF bs) = bs) : bs.take 2 = [77, 90] := by rw [← h]; rfl
end Go.Proofs.Ytmdjhbkpekepgaa

/- A call of a function that was handed over, its number a letter; a block and two numbers handed back; what a call may do to one block. No program is named here. -/
namespace Go.Proofs.Ytmdjhbkpekepgaa
open Go.RowKit
set_option linter.unusedVariables false
set_option linter.unusedSimpArgs false
set_option maxRecDepth 100000

/-- A call of this function enters its body. -/
def Enters (P : Program) (f : FuncId) : Prop := ∀ (args : Array Value) (w : World), (callFunc f args).run P w = .ok (.enter f args) w
theorem Enters.of {P : Program} {f : FuncId} {fn : Func} (h : P.funcs[f]? = some fn) (hn : (fn.name == "runtime.NumGoroutine") = false) (hb : fn.body.isNone = false) : Enters P f := by
  intro args w
  have h1 : ¬ fn.name = "runtime.NumGoroutine" := by simpa using hn
  have h2 : ¬ fn.body = none := by intro e; rw [e] at hb; cases hb
  simp [callFunc, h, h1, h2]
/-- Only block g of those that were there has changed. -/
theorem grown_below {w w1 w2 : World} {B g : Nat} (h : w.grownBy w1 (some g)) (hb : Below B w1 w2) (hB : w.heap.size ≤ B) : w.grownBy w2 (some g) :=
  ⟨hb.os.trans h.os, hb.tape.trans h.tape, hb.output.trans h.output, Nat.le_trans h.size hb.size, fun i hi hr => (hb.block i (by omega)).trans (h.block i hi hr)⟩
theorem grown_set {w w1 : World} {g b k : Nat} {v : Value} (h : w.grownBy w1 (some g)) (hb : w.heap.size ≤ b) : w.grownBy (w1.setCell ⟨b, k, none⟩ v) (some g) :=
  ⟨h.os, h.tape, h.output, by have := h.size; simpa [World.setCell] using this, fun i hi hr => (Below.heap_setCell _ _ _ _ (by simp; omega)).trans (h.block i hi hr)⟩
theorem grown_setCell (w : World) (g k : Nat) (v : Value) : w.grownBy (w.setCell ⟨g, k, none⟩ v) (some g) := ⟨rfl, rfl, rfl, by simp [World.setCell], fun i _ hi => Below.heap_setCell _ _ _ _ (fun e => hi (by rw [e]))⟩
theorem Seen.grown {w w' : World} {G g : Nat} {A : Option Addr} {xs : List Value} (h : Seen w G A xs) (hg : w.grownBy w' (some g)) (h1 : G ≤ g) (h2 : G ≤ w.heap.size) : Seen w' G A xs :=
  h.of w w' fun p hp => World.cell?_of_block (hg.block p.block (by omega) (by simp; omega))
end Go.Proofs.Ytmdjhbkpekepgaa

/- A drawn region driven by hand: what may be taken first is taken first, where its result goes is told. No program is named here. -/
namespace Go.Proofs.Ytmdjhbkpekepgaa
open Go.RowKit
set_option linter.unusedVariables false
set_option linter.unusedSimpArgs false
set_option maxRecDepth 100000
section
variable {P : Program} {ops : Array Oper} {Q : Exit → Act → World → Prop} {md : Region.Mode} {S : World → Prop} {fuel : Nat} {listed : Array Bool} {ts : List Value} {w : World}
end
end Go.Proofs.Ytmdjhbkpekepgaa
