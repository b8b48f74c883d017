/- Texts shared by the claims of this seat, in one. -/
import Derived.Test.YtmdjhbkpekepgaaBd2
import Derived.Test.YtmdjhbkpekepgaaBd1
import Derived.Deep.RegionHeld3
import Derived.Test.YtmdjhbkpekepgaaRows
import Derived.ProofKit
import Derived.OpenShut
import Derived.ChangeSame
import Derived.Deep.Slices
import Derived.SizedLaws
import Derived.ShutString
import Derived.ChangeOld
import Derived.JoinedCond
import Derived.Deep.SlicePairs
import Derived.Deep.Fields
import Derived.Lib.SmallJoins
/- The reference's BlockWithin: its contract. -/
namespace Go.Proofs.Ytmdjhbkpekepgaa
open Go.RowKit
set_option linter.unusedVariables false
set_option linter.unusedSimpArgs false
set_option maxRecDepth 100000

theorem inB_bad {lo hi : Int} {cs : List Int} {k : Nat} {x : Int} (hx : cs[k]? = some x) (h : ¬ (lo ≤ x ∧ x ≤ hi)) : inB lo hi cs = false := by
  cases e : inB lo hi cs with
  | false => rfl
  | true => exact absurd (inB_at e hx) h
set_option maxHeartbeats 1000000 in
set_option maxRecDepth 100000 in
theorem bwithin_any (cs : List Int) (lo hi : Int) (w : World) (hc : cs.length = 64) :
    Calls Try.prog 23 #[blkV cs, .int .i64 lo, .int .i64 hi] w fun e w' => e = .returned (.bool (inB lo hi cs)) ∧ Below w.heap.size w w' := by
  have hb0 := below1 w (.cells (ints .i64 cs).toArray 23)
  have hr := range_new w (ints .i64 cs) 23
  have Hl : Hid ((ints .i64 cs).length = 64) := by show _ = _; rw [ints_length, hc]
  have Hat : Hid (∀ (k : Nat) (x : Int), cs[k]? = some x → (ints .i64 cs)[k]? = some (.int .i64 x)) := fun _ _ h => ints_at h
  obtain ⟨E, hE⟩ : ∃ E, E = inB lo hi cs := ⟨_, rfl⟩
  rw [← hE]
  have HE := veil hE; clear hE
  unfold blkV
  generalize ints .i64 cs = xs at *
  go_enter Try.func23, Try.ntmps23
  go_wp2_with (first
    | (refine wpList_load_mid rfl 23 (.tmp 3) rfl w.heap.size 0 rfl xs _ hr Try.underlying23 rfl (info_blkn Hl.out) ?_)
    | fail)
  go_loopg [10] 64 (fun gk i wr => ∃ k : Nat, gk = 64 - k ∧ k ≤ 64 ∧ i = .int .i64 (k : Int) ∧ Hid (inB lo hi (cs.take k) = true) ∧ Below w.heap.size w wr)
  case atStart => exact ⟨0, rfl, by omega, rfl, by simp [inB, Hid], hb0⟩
  case round =>
    clear hr hb0
    obtain ⟨k, rfl, hk, rfl, HI, hb⟩ := hrel
    by_cases hlt : k < 64
    · have hltz : (k : Int) < 64 := by omega
      obtain ⟨x, hx⟩ := some_at (xs := cs) (j := k) (by omega)
      have hxs := Hat.out _ _ hx
      by_cases h1 : lo ≤ x ∧ x ≤ hi
      · have HI2 := veil (inB_take hx HI.out h1.1 h1.2)
        have HO := veil (out_no x lo hi h1 wr)
        clear HI hx
        go_wp2_with (first
          | (refine wpList_index_arr rfl 23 (.tmp 9) (.tmp 10) rfl 64 3 .i64 Try.underlying23 Try.underlying3 (by kernel_rfl) xs rfl .i64 k rfl (.int .i64 x) hlt hxs ?_)
          | fail)
        refine HO.out.mono ?_
        rintro e w1 ⟨rfl, rfl⟩
        go_wp2_with fail
        go_roundg (64 - (k + 1))
        case rel => exact ⟨k + 1, rfl, by omega, by go_num, HI2, hb⟩
        case measure => omega
      · have h2 := inB_bad hx h1
        have HO := veil (out_yes x lo hi (by omega) wr)
        rw [← HE.out] at h2
        subst h2
        clear HI hx
        go_wp2_with (first
          | (refine wpList_index_arr rfl 23 (.tmp 9) (.tmp 10) rfl 64 3 .i64 Try.underlying23 Try.underlying3 (by kernel_rfl) xs rfl .i64 k rfl (.int .i64 x) hlt hxs ?_)
          | fail)
        refine HO.out.mono ?_
        rintro e w1 ⟨rfl, rfl⟩
        go_wp2
        go_ret
        exact ⟨rfl, hb⟩
    · obtain rfl : k = 64 := by omega
      have h2 : inB lo hi cs = true := by have := HI.out; rw [List.take_of_length_le (by omega)] at this; exact this
      rw [← HE.out] at h2
      subst h2
      go_wp2
      go_ret
      exact ⟨rfl, hb⟩
end Go.Proofs.Ytmdjhbkpekepgaa

/- The reference's FileCheck: its contract. -/
namespace Go.Proofs.Ytmdjhbkpekepgaa
open Go.RowKit
set_option linter.unusedVariables false
set_option linter.unusedSimpArgs false
set_option maxRecDepth 100000

theorem eFile_bad {f : FileL} (h : badF f) : eFile f = 1 := by unfold eFile; rw [if_pos h]
theorem eFile_tabs {f : FileL} (h : ¬ badF f) (h2 : eTs f.cs f.syms f.cs2 f.syms2 ≠ 0) : eFile f = eTs f.cs f.syms f.cs2 f.syms2 := by unfold eFile; rw [if_neg h, if_pos h2]
theorem eFile_large {f : FileL} (h : ¬ badF f) (h2 : eTs f.cs f.syms f.cs2 f.syms2 = 0) (h3 : 90000 < f.data.length) : eFile f = 2 := by unfold eFile; rw [if_neg h, if_neg (by rw [h2]; decide), if_pos h3]
theorem eFile_ok {f : FileL} (h : ¬ badF f) (h2 : eTs f.cs f.syms f.cs2 f.syms2 = 0) (h3 : ¬ 90000 < f.data.length) : eFile f = 0 := by unfold eFile; rw [if_neg h, if_neg (by rw [h2]; decide), if_neg h3]
set_option maxRecDepth 100000 in
set_option maxHeartbeats 2000000 in
theorem refFileCheck_any (f : FileL) (A : Option Addr) (c : Nat) (A2 : Option Addr) (c2 : Nat) (A3 : Option Addr) (c3 G : Nat) (w : World) (hf : FileIn f A c A2 c2 A3 c3 G w) (hG : G ≤ w.heap.size) :
    Calls Try.prog 10 #[fileV f A c A2 c2 A3 c3] w fun e w' => e = .returned (.int .i64 (eFile f)) ∧ Below w.heap.size w w' := by
  have hb0 := below1 w (.cells (fileCells f A c A2 c2 A3 c3).toArray 32)
  have hz0 : (w.alloc (.cells (fileCells f A c A2 c2 A3 c3).toArray 32)).heap.size = w.heap.size + 1 := by simp
  have hat := fileAt_of hf.form (range_new w (fileCells f A c A2 c2 A3 c3) 32)
  have HC := veil (fun W (h : FileIn f A c A2 c2 A3 c3 G W) hG => tablesCheck_any f.cs f.syms A c f.cs2 f.syms2 A2 c2 G W h.form.cs h.max h.cap h.bnd h.see h.form.cs2 h.max2 h.cap2 h.bnd2 h.see2 hG)
  have HW := veil (fun W => bwithin_any f.q 1 255 W hf.form.q)
  have H1 := veil (@eFile_bad f)
  have H2 := veil (@eFile_tabs f)
  have H3 := veil (@eFile_large f)
  have H4 := veil (@eFile_ok f)
  have HB : Hid (badF f ↔ f.wide < 1 ∨ 64 < f.wide ∨ f.high < 1 ∨ 64 < f.high ∨ (f.parts ≠ 1 ∧ f.parts ≠ 3) ∨ f.every < 0 ∨ 100 < f.every ∨ inB 1 255 f.q = false) := Iff.rfl
  have Hq : Hid ((ints .i64 f.q).length = 64) := by show _ = _; rw [ints_length, hf.form.q]
  have Ht : Hid ((tabsCells f.cs A f.syms.length c f.cs2 A2 f.syms2.length c2).length = 34) := by show _ = _; unfold tabsCells; rw [List.length_append, tabCells_length hf.form.cs, tabCells_length hf.form.cs2]
  have Hf := veil hf
  clear hf
  obtain ⟨k1, k2, k3, hq, ht, k4, k5⟩ := hat
  unfold fileV
  unfold tabsV at HC
  unfold blkV at HW
  generalize fileCells f A c A2 c2 A3 c3 = zs at *
  generalize tabsCells f.cs A f.syms.length c f.cs2 A2 f.syms2.length c2 = ts at *
  generalize ints .i64 f.q = xs at *
  generalize inB 1 255 f.q = qb at *
  generalize eTs f.cs f.syms f.cs2 f.syms2 = et at *
  generalize eFile f = E at *
  generalize f.wide = wide at *
  generalize f.high = high at *
  generalize f.parts = parts at *
  generalize f.every = every at *
  go_enter Try.func10, Try.ntmps10
  go_wp2_with fail
  by_cases b1 : wide < 1 ∨ 64 < wide
  · refine (out_yes wide 1 64 b1 _).mono ?_
    rintro e _ ⟨rfl, rfl⟩
    have hE := H1.out (HB.out.2 (by omega))
    subst hE
    go_wp2
    go_ret
    exact ⟨rfl, hb0⟩
  refine (out_no wide 1 64 (by omega) _).mono ?_
  rintro e _ ⟨rfl, rfl⟩
  go_wp2_with fail
  by_cases b2 : high < 1 ∨ 64 < high
  · refine (out_yes high 1 64 b2 _).mono ?_
    rintro e _ ⟨rfl, rfl⟩
    have hE := H1.out (HB.out.2 (by omega))
    subst hE
    go_wp2
    go_ret
    exact ⟨rfl, hb0⟩
  refine (out_no high 1 64 (by omega) _).mono ?_
  rintro e _ ⟨rfl, rfl⟩
  by_cases bp : parts ≠ 1 ∧ parts ≠ 3
  · have hE := H1.out (HB.out.2 (by omega))
    subst hE
    have n1 := bp.1
    have n3 := bp.2
    have HX := veil bp
    clear bp
    have d1 : (parts != 1) = true := by simpa using n1
    have d3 : (parts != 3) = true := by simpa using n3
    clear n1 n3
    go_wp2
    go_ret
    exact ⟨rfl, hb0⟩
  have g13 : parts = 1 ∨ parts = 3 := by omega
  have HX := veil bp
  clear bp
  rcases g13 with rfl | rfl
  all_goals
    go_wp2_with fail
    by_cases b5 : every < 0 ∨ 100 < every
    · refine (out_yes every 0 100 b5 _).mono ?_
      rintro e _ ⟨rfl, rfl⟩
      have hE := H1.out (HB.out.2 (by omega))
      subst hE
      go_wp2
      go_ret
      exact ⟨rfl, hb0⟩
    refine (out_no every 0 100 (by omega) _).mono ?_
    rintro e _ ⟨rfl, rfl⟩
    go_wp2_with (first
      | (refine wpList_load_long rfl 23 (.tmp 28) rfl w.heap.size 3 rfl xs _ (by simpa using hq) Try.underlying23 rfl (info_blkn Hq.out) ?_)
      | fail)
    refine (HW.out _).mono ?_
    rintro e w1 ⟨rfl, hb1⟩
    have hbw := hb0.trans (hb1.mono (by rw [hz0]; omega))
    have ht' := range_below ht hb1 (by rw [hz0]; omega)
    have k5' := (hb1.cell (show w.heap.size < _ by rw [hz0]; omega)).trans k5
    have hz1 : w.heap.size + 1 ≤ w1.heap.size := by have := hb1.size; omega
    clear hq ht k1 k2 k3 k4 k5 hb1
    cases qb with
    | false =>
      have hE := H1.out (HB.out.2 (by simp))
      subst hE
      go_wp2
      go_ret
      exact ⟨rfl, hbw⟩
    | true =>
      have hnb : ¬ badF f := fun h => by have := HB.out.1 h; simp at this; omega
      go_wp2_with (first
        | (refine wpList_load_mid rfl 29 (.tmp 33) rfl w.heap.size 67 rfl ts _ (by simpa using ht') Try.underlying29 rfl (by rw [Ht.out]; kernel_rfl) ?_)
        | fail)
      refine (HC.out w1 (Hf.out.below hbw (by omega)) (by omega)).mono ?_
      rintro e w2 ⟨rfl, hb2⟩
      have hbf := hbw.trans (hb2.mono (by omega))
      have k6 := (hb2.cell (show w.heap.size < _ by omega)).trans k5'
      clear k5' hb2 HC HW ht'
      by_cases h0 : et = 0
      · subst h0
        by_cases h1 : 90000 < f.data.length
        · have hE := H3.out hnb rfl h1
          subst hE
          have h2 : (90000 : Int) < f.data.length := by omega
          go_wp2
          go_ret
          exact ⟨rfl, hbf⟩
        · have hE := H4.out hnb rfl h1
          subst hE
          have h2 : ¬ (90000 : Int) < f.data.length := by omega
          go_wp2
          go_ret
          exact ⟨rfl, hbf⟩
      · have hE := H2.out hnb h0
        subst hE
        have hne : (E != 0) = true := by simpa using h0
        clear h0
        go_wp2
        go_ret
        exact ⟨rfl, hbf⟩
end Go.Proofs.Ytmdjhbkpekepgaa

/- A drawn region driven by hand: what may be taken first is taken first, where its result goes is told. No program is named here. -/
namespace Go.Proofs.Ytmdjhbkpekepgaa
open Go.RowKit
set_option linter.unusedVariables false
set_option linter.unusedSimpArgs false
set_option maxRecDepth 100000
section
variable {P : Program} {ops : Array Oper} {Q : Exit → Act → World → Prop} {md : Region.Mode} {S : World → Prop} {fuel : Nat} {listed : Array Bool} {ts : List Value} {w : World}
theorem put_some (ts : List Value) (d : Nat) (v : Value) : (({ tmps := ts.toArray, defers := [] } : Act).put (some d) v) = { tmps := (ts.set d v).toArray, defers := [] } := by
  simp [Act.put]
/-- What yields in every world that meets S is taken first. -/
theorem take_pure (i : Nat) (d : Nat) (v : Value) (ts' : List Value) {oi : Oper} (hi : ops[i]? = some oi) (hd : oi.dst = some d) (hs : Region.noSelect ops = true) (hf : Region.free md ops listed i = true) (hr : (Region.ready md ops listed).contains i = true)
    (hQ : ∀ c a w, Q (.panic c) (a.put oi.dst v) w → Q (.panic c) a w) (hw : Region.wanted oi (yielded ops ts.toArray) = true) (hy : ∀ w, S w → (execOp ({ tmps := ts.toArray, defers := [] } : Act).eval oi).run P w = .ok (.value v) w) (hS : S w) (ht : ts.set d v = ts')
    (h : wpAnyH P md ops Q S fuel (listed.setIfInBounds i true) { tmps := ts'.toArray, defers := [] } w) : wpAnyH P md ops Q S (fuel + 1) listed { tmps := ts.toArray, defers := [] } w := by
  refine wpAnyH_take hi hs hf hr hQ (.inl ⟨hw, hy⟩) hS ?_
  rw [hd, put_some, ht]
  exact h
/-- A long load is taken first. -/
theorem take_load (i : Nat) (d : Nat) (ty : TypeId) (x : Operand) (b o : Nat) (cs : List Value) (ts' : List Value) {oi : Oper} {dd : TypeDesc} (hi : ops[i]? = some oi) (hd : oi.dst = some d) (hs : Region.noSelect ops = true) (hf : Region.free md ops listed i = true) (hr : (Region.ready md ops listed).contains i = true)
    (hQ : ∀ c a w, Q (.panic c) (a.put oi.dst (.agg cs.toArray)) w → Q (.panic c) a w) (hw : Region.wanted oi (yielded ops ts.toArray) = true) (ho : oi.op = .load ty x) (hx : ({ tmps := ts.toArray, defers := [] } : Act).eval x = .pointer (some ⟨b, o, none⟩))
    (hc : ∀ w, S w → w.rangeAt b o cs) (hu : P.underlying ty = some dd) (hdd : dd.isRow = true) (hsz : (P.info? ty).map (·.size) = some cs.length) (hS : S w) (ht : ts.set d (.agg cs.toArray) = ts')
    (h : wpAnyH P md ops Q S fuel (listed.setIfInBounds i true) { tmps := ts'.toArray, defers := [] } w) : wpAnyH P md ops Q S (fuel + 1) listed { tmps := ts.toArray, defers := [] } w := by
  refine wpAnyH_take hi hs hf hr hQ (yieldsIf_load_mid hw ty x ho b o hx cs dd hc hu hdd hsz) hS ?_
  rw [hd, put_some, ht]
  exact h
end
end Go.Proofs.Ytmdjhbkpekepgaa

/- file.Check: its contract. -/
namespace Go.Proofs.Ytmdjhbkpekepgaa
open Go.RowKit
set_option linter.unusedVariables false
set_option linter.unusedSimpArgs false
set_option maxRecDepth 100000

theorem side_any (n : Int) (b : Bool) (w : World) (h : b = true ↔ 1 ≤ n ∧ n ≤ 64) :
    Calls Try.prog 19 #[.int .i64 n] w fun e w' => e = .returned (.bool b) ∧ w = w' := by
  go_enter Try.func19, Try.ntmps19
  cases b with
  | true =>
    obtain ⟨h1, h2⟩ := h.1 rfl
    have d1 : decide (1 ≤ n) = true := decide_eq_true h1
    have d2 : decide (n ≤ 64) = true := decide_eq_true h2
    clear h
    go_wp2
    go_ret
    exact ⟨rfl, rfl⟩
  | false =>
    have h1 : ¬ (1 ≤ n ∧ n ≤ 64) := fun g => by have := h.2 g; simp at this
    clear h
    by_cases h2 : 1 ≤ n
    · have h3 : ¬ n ≤ 64 := by omega
      clear h1
      go_wp2
      go_ret
      exact ⟨rfl, rfl⟩
    · clear h1
      go_wp2
      go_ret
      exact ⟨rfl, rfl⟩
set_option maxRecDepth 100000 in
set_option maxHeartbeats 2000000 in
theorem fileCheck_any : FCheckSpec := by
  intro f A c A2 c2 A3 c3 G w hf hG
  have hb0 := below1 w (.cells (fileCells f A c A2 c2 A3 c3).toArray 32)
  have hz0 : (w.alloc (.cells (fileCells f A c A2 c2 A3 c3).toArray 32)).heap.size = w.heap.size + 1 := by simp
  have hat := fileAt_of hf.form (range_new w (fileCells f A c A2 c2 A3 c3) 32)
  have HC1 := veil (fun W (h : FileIn f A c A2 c2 A3 c3 G W) hG => check_any f.cs f.syms A c G W h.form.cs h.max h.bnd h.see hG)
  have HC2 := veil (fun W (h : FileIn f A c A2 c2 A3 c3 G W) hG => check_any f.cs2 f.syms2 A2 c2 G W h.form.cs2 h.max2 h.bnd2 h.see2 hG)
  have HW := veil (fun W => qcheck_any f.q W hf.form.q)
  have HS := veil side_any
  have H1 := veil (@eFile_bad f)
  have H2 := veil (@eFile_tabs f)
  have H3 := veil (@eFile_large f)
  have H4 := veil (@eFile_ok f)
  have HB : Hid (badF f ↔ f.wide < 1 ∨ 64 < f.wide ∨ f.high < 1 ∨ 64 < f.high ∨ (f.parts ≠ 1 ∧ f.parts ≠ 3) ∨ f.every < 0 ∨ 100 < f.every ∨ inB 1 255 f.q = false) := Iff.rfl
  have Hq : Hid ((ints .i64 f.q).length = 64) := by show _ = _; rw [ints_length, hf.form.q]
  have L1 : Hid ((tabCells f.cs A f.syms.length c).length = 17) := tabCells_length hf.form.cs
  have L2 : Hid ((tabCells f.cs2 A2 f.syms2.length c2).length = 17) := tabCells_length hf.form.cs2
  have HE : Hid (eTs f.cs f.syms f.cs2 f.syms2 = if checkErr f.cs f.syms = 0 then checkErr f.cs2 f.syms2 else checkErr f.cs f.syms) := rfl
  have HQ : Hid (badB 1 255 f.q = if inB 1 255 f.q = true then 0 else 1) := rfl
  have Hf := veil hf
  clear hf
  obtain ⟨k1, k2, k3, hq, ht, k4, k5⟩ := hat
  have ht1 := range_left ht
  have ht2 := range_right ht
  rw [L1.out] at ht2
  unfold fileV
  unfold blkV at HW
  unfold tabV at HC1 HC2
  clear ht
  generalize fileCells f A c A2 c2 A3 c3 = zs at *
  generalize tabCells f.cs A f.syms.length c = t1 at *
  generalize tabCells f.cs2 A2 f.syms2.length c2 = t2 at *
  generalize ints .i64 f.q = xs at *
  generalize badB 1 255 f.q = eq at *
  generalize inB 1 255 f.q = qb at *
  generalize eTs f.cs f.syms f.cs2 f.syms2 = et at *
  generalize checkErr f.cs f.syms = e1 at *
  generalize checkErr f.cs2 f.syms2 = e2 at *
  generalize eFile f = E at *
  generalize f.wide = wide at *
  generalize f.high = high at *
  generalize f.parts = parts at *
  generalize f.every = every at *
  go_enter Try.func9, Try.ntmps9
  go_wp2_with fail
  by_cases b1 : 1 ≤ wide ∧ wide ≤ 64
  case neg =>
    refine (HS.out wide false _ (by simpa using b1)).mono ?_
    rintro e _ ⟨rfl, rfl⟩
    have hE := H1.out (HB.out.2 (by omega))
    subst hE
    go_wp2
    go_ret
    exact ⟨rfl, hb0⟩
  refine (HS.out wide true _ (by simpa using b1)).mono ?_
  rintro e _ ⟨rfl, rfl⟩
  go_wp2_with fail
  by_cases b2 : 1 ≤ high ∧ high ≤ 64
  case neg =>
    refine (HS.out high false _ (by simpa using b2)).mono ?_
    rintro e _ ⟨rfl, rfl⟩
    have hE := H1.out (HB.out.2 (by omega))
    subst hE
    go_wp2
    go_ret
    exact ⟨rfl, hb0⟩
  refine (HS.out high true _ (by simpa using b2)).mono ?_
  rintro e _ ⟨rfl, rfl⟩
  by_cases bp : parts ≠ 1 ∧ parts ≠ 3
  · have hE := H1.out (HB.out.2 (by omega))
    subst hE
    have n1 := bp.1
    have n3 := bp.2
    clear bp
    have d1 : (parts != 1) = true := by simpa using n1
    have d3 : (parts != 3) = true := by simpa using n3
    clear n1 n3
    go_wp2
    go_ret
    exact ⟨rfl, hb0⟩
  have g13 : parts = 1 ∨ parts = 3 := by omega
  have HX := veil bp
  clear bp
  rcases g13 with rfl | rfl
  all_goals
    by_cases b5 : every < 0
    · have hE := H1.out (HB.out.2 (by omega))
      subst hE
      go_wp2
      go_ret
      exact ⟨rfl, hb0⟩
    by_cases b6 : 100 < every
    · have hE := H1.out (HB.out.2 (by omega))
      subst hE
      go_wp2
      go_ret
      exact ⟨rfl, hb0⟩
    go_wp2_with (first
      | (refine wpList_load_long rfl 23 (.tmp 36) rfl w.heap.size 3 rfl xs _ (by simpa using hq) Try.underlying23 rfl (info_blkn Hq.out) ?_)
      | fail)
    refine (HW.out _).mono ?_
    rintro e w1 ⟨rfl, hb1⟩
    have hbw := hb0.trans (hb1.mono (by rw [hz0]; omega))
    have ht1' := range_below ht1 hb1 (by rw [hz0]; omega)
    have ht2' := range_below ht2 hb1 (by rw [hz0]; omega)
    have k5' := (hb1.cell (show w.heap.size < _ by rw [hz0]; omega)).trans k5
    have hz1 : w.heap.size + 1 ≤ w1.heap.size := by have := hb1.size; omega
    clear hq ht1 ht2 k1 k2 k3 k4 k5 hb1
    cases qb with
    | false =>
      have hE := H1.out (HB.out.2 (by simp))
      have he : eq = 1 := HQ.out
      subst hE he
      go_wp2
      go_ret
      exact ⟨rfl, hbw⟩
    | true =>
      have hnb : ¬ badF f := fun h => by have := HB.out.1 h; simp at this; omega
      have he : eq = 0 := HQ.out
      subst he
      go_wp2_with (first
        | (refine wpList_load_mid rfl 27 (.tmp 43) rfl w.heap.size 67 rfl t1 _ (by simpa using ht1') Try.underlying27 rfl (by rw [L1.out]; exact info_tab) ?_)
        | fail)
      refine (HC1.out w1 (Hf.out.below hbw (by omega)) (by omega)).mono ?_
      rintro e w2 ⟨rfl, hb2⟩
      have hbf := hbw.trans (hb2.mono (by omega))
      have k6 := (hb2.cell (show w.heap.size < _ by omega)).trans k5'
      have ht2'' := range_below ht2' hb2 (by omega)
      have hz2 := hb2.size
      clear k5' hb2 HC1 HW ht1' ht2'
      by_cases h0 : e1 = 0
      · subst h0
        have he2 : et = e2 := HE.out
        go_wp2_with (first
          | (refine wpList_load_mid rfl 27 (.tmp 50) rfl w.heap.size 84 rfl t2 _ (by simpa using ht2'') Try.underlying27 rfl (by rw [L2.out]; exact info_tab) ?_)
          | fail)
        refine (HC2.out w2 (Hf.out.below hbf (by omega)) (by omega)).mono ?_
        rintro e w3 ⟨rfl, hb3⟩
        have hbg := hbf.trans (hb3.mono (by omega))
        have k7 := (hb3.cell (show w.heap.size < _ by omega)).trans k6
        clear k6 hb3 HC2 ht2'' hbf
        subst he2
        by_cases h0 : et = 0
        · subst h0
          by_cases h1 : 90000 < f.data.length
          · have hE := H3.out hnb rfl h1
            subst hE
            have h2 : (90000 : Int) < f.data.length := by omega
            go_wp2
            go_ret
            exact ⟨rfl, hbg⟩
          · have hE := H4.out hnb rfl h1
            subst hE
            have h2 : ¬ (90000 : Int) < f.data.length := by omega
            go_wp2
            go_ret
            exact ⟨rfl, hbg⟩
        · have hE := H2.out hnb h0
          subst hE
          have hne : (E != 0) = true := by simpa using h0
          clear h0
          go_wp2
          go_ret
          exact ⟨rfl, hbg⟩
      · have he2 : et = e1 := by have := HE.out; rw [if_neg h0] at this; exact this
        have hE := H2.out hnb (by rw [he2]; exact h0)
        subst he2
        subst hE
        have hne : (E != 0) = true := by simpa using h0
        clear h0
        go_wp2
        go_ret
        exact ⟨rfl, hbf⟩
end Go.Proofs.Ytmdjhbkpekepgaa

/- Rows of integers of one length, one behind another in memory: blocks in a slice. No program is named here. -/
namespace Go.Proofs.Ytmdjhbkpekepgaa
open Go.RowKit
set_option linter.unusedVariables false
set_option linter.unusedSimpArgs false
set_option maxRecDepth 100000

/-- Rows of integers, one behind another. -/
def rowsC (L : List (List Int)) : List Value := L.flatMap (ints .i64)
theorem rowsC_length {n : Nat} : ∀ {L : List (List Int)}, (∀ r ∈ L, r.length = n) → (rowsC L).length = L.length * n
  | [], _ => by simp [rowsC]
  | r :: L, h => by
    have h1 := rowsC_length (L := L) fun x hx => h x (List.mem_cons_of_mem _ hx)
    have h2 := h r List.mem_cons_self
    simp only [rowsC, List.flatMap_cons, List.length_append, ints_length, List.length_cons] at h1 ⊢
    rw [h1, h2, Nat.add_mul]; omega
theorem rowsC_at {n : Nat} : ∀ {L : List (List Int)}, (∀ r ∈ L, r.length = n) → ∀ {i j : Nat} {r : List Int}, L[i]? = some r → j < n → (rowsC L)[i * n + j]? = (ints .i64 r)[j]?
  | [], _, i, j, r, h, _ => by simp at h
  | s :: L, hl, 0, j, r, h, hj => by
    simp at h; subst h
    have := hl s List.mem_cons_self
    rw [rowsC, List.flatMap_cons, Nat.zero_mul, Nat.zero_add, List.getElem?_append_left (by rw [ints_length]; omega)]
  | s :: L, hl, i + 1, j, r, h, hj => by
    rw [List.getElem?_cons_succ] at h
    have h2 := hl s List.mem_cons_self
    have ih := rowsC_at (L := L) (fun x hx => hl x (List.mem_cons_of_mem _ hx)) h hj
    rw [rowsC, List.flatMap_cons, List.getElem?_append_right (by rw [ints_length, h2, Nat.add_mul]; omega), ints_length, h2, show (i + 1) * n + j - n = i * n + j by rw [Nat.add_mul]; omega]
    exact ih
/-- One row of a slice that is seen. -/
theorem Seen.row {w : World} {G n : Nat} {A : Option Addr} {L : List (List Int)} (h : Seen w G A (rowsC L)) (hl : ∀ r ∈ L, r.length = n) (hp : 0 < n) {k : Nat} (hk : k < L.length) :
    ∃ g o r, A = some ⟨g, o, none⟩ ∧ g < G ∧ L[k]? = some r ∧ r.length = n ∧ w.rangeAt g (o + k * n) (ints .i64 r) := by
  obtain ⟨r, hr⟩ := some_at hk
  have hrl := hl r (List.mem_of_getElem? hr)
  have hlt : 0 < (rowsC L).length := by rw [rowsC_length hl]; exact Nat.mul_pos (by omega) hp
  obtain ⟨g, o, e, hg, hc⟩ := h.at hlt
  refine ⟨g, o, r, e, hg, hr, hrl, fun j v hv => ?_⟩
  have hj : j < n := by have := (List.getElem?_eq_some_iff.1 hv).1; rw [ints_length] at this; omega
  have h2 := rowsC_at hl hr hj
  rw [hv] at h2
  have := hc _ _ h2
  rw [Nat.add_assoc]; exact this
end Go.Proofs.Ytmdjhbkpekepgaa

/- From the form's reading of a slice of structs or arrays of integers to the words of Mem. -/
namespace Go.Proofs.Ytmdjhbkpekepgaa
open Go.RowKit Go.ChangeShapes Go.WideShapes Go.ChangeAt Go.Deep
set_option linter.unusedVariables false
set_option linter.unusedSimpArgs false
set_option maxRecDepth 100000

section
variable {H : Type} {enc : TypeId × Value → H}
end
end Go.Proofs.Ytmdjhbkpekepgaa

/- From the form's readings of the arguments to the words of Mem: slices of integers, slices of structs of integers. -/
namespace Go.Proofs.Ytmdjhbkpekepgaa
open Go.RowKit Go.ChangeShapes Go.WideShapes Go.ChangeAt Go.Deep
set_option linter.unusedVariables false
set_option linter.unusedSimpArgs false
set_option maxRecDepth 100000

theorem own : ownKnob Try.prog.godebug = none := by kernel_rfl
theorem laidOut : laidOutB Try.prog = true := by kernel_rfl

section
variable {H : Type} {enc : TypeId × Value → H}

theorem bulk_pos (d : DataW H) : 1 ≤ Rows.uptoBulk d := by
  cases d with
  | lit l => cases l <;> simp [Rows.uptoBulk]
  | nil => simp [Rows.uptoBulk]
  | ptr d => simp [Rows.uptoBulk]
  | slice elems spare => simp [Rows.uptoBulk]
  | agg parts => simp [Rows.uptoBulk]
  | iface t d => simp [Rows.uptoBulk]
  | map entries => simp [Rows.uptoBulk]
  | held h => simp [Rows.uptoBulk]
theorem bulk_length (l : List (DataW H)) : l.length ≤ Rows.uptoBulkAll l := by
  induction l with
  | nil => simp [Rows.uptoBulkAll]
  | cons x r ih => have := bulk_pos x; simp only [Rows.uptoBulkAll, List.length_cons]; omega

/-- A slice of integers that came in. -/
theorem openInts {W : World} {t e : TypeId} {k : IntKind} {a : Option Addr} {len cap : Nat} {d : DataW H} {p : List MemPlace} {sp : Nat → Bool} {hd : Bool}
    (ht : Try.prog.underlying t = some (.slice e)) (he : Try.prog.underlying e = some (.int k)) (hc : Try.prog.cellsOf e = 1)
    (h : DataW.Trod enc Try.prog W 0 sp hd t (.slice a len cap) d p) :
    ∃ xs : List Int, len = xs.length ∧ Seen W W.heap.size a (ints k xs) ∧ (∀ x ∈ xs, (Lit.int k x).wf = true) ∧ xs.length ≤ maxLen ∧ cap ≤ maxLen ∧ xs.length ≤ cap ∧ xs.length ≤ Rows.uptoBulk d := by
  obtain ⟨fuel, hf⟩ := h
  rcases open_ints ht he hc hf with ⟨hcs, _⟩ | ⟨x, l, c, zs, hcs, _, hl, hm, hz, hx, hcell, hwz⟩
  · simp [Value.cells] at hcs
    obtain ⟨rfl, rfl, rfl⟩ := hcs
    exact ⟨[], rfl, .inl rfl, by simp, Nat.zero_le _, Nat.zero_le _, Nat.zero_le _, Nat.zero_le _⟩
  · simp [Value.cells] at hcs
    obtain ⟨rfl, rfl, rfl⟩ := hcs
    have hlz : len ≤ zs.length := by rw [hz]; split <;> omega
    simp only [Prod.mk.injEq] at hx
    refine ⟨zs.take len, by simp [Nat.min_eq_left hlz], ?_, fun x hx => hwz x (List.mem_of_mem_take hx), by simp; omega, hm, by simp; omega, ?_⟩
    · by_cases h0 : len = 0
      · subst h0; exact .inl rfl
      · have h1 := hcell 0 (by omega)
        have hsp := World.cell?_spot h1
        have hb := World.block_lt_of_cell? W _ h1
        obtain ⟨b, o, s⟩ := x
        simp [Addr.add] at hsp hb
        subst hsp
        refine .inr ⟨b, o, rfl, hb, fun j u hu => ?_⟩
        have hj : j < zs.length := by
          have := (List.getElem?_eq_some_iff.1 hu).1
          simp [ints] at this; omega
        have h2 := hcell j hj
        have h3 : (ints k (zs.take len))[j]? = some (.int k (zs.getD j 0)) := by
          have hjl : j < len := by
            have := (List.getElem?_eq_some_iff.1 hu).1
            simp [ints] at this; omega
          simp [ints, List.getElem?_take, hjl, hj]
        rw [h3] at hu
        injection hu with hu
        subst hu
        rw [← h2]
        unfold Addr.add
        split
        · rename_i e; subst e; rfl
        · rfl
    · rw [hx.1]
      simp only [Rows.uptoBulk]
      have h1 := bulk_length (lits (H := H) k (zs.take len))
      have h2 : (lits (H := H) k (zs.take len)).length = (zs.take len).length := by simp [lits]
      omega

end
end Go.Proofs.Ytmdjhbkpekepgaa

/- From the form's reading of a table that came in to its counts and its symbols. -/
namespace Go.Proofs.Ytmdjhbkpekepgaa
open Go.RowKit Go.ChangeShapes Go.WideShapes Go.ChangeAt Go.Deep
set_option linter.unusedVariables false
set_option linter.unusedSimpArgs false
set_option maxRecDepth 100000
section
variable {H : Type} {enc : TypeId × Value → H}
theorem take_drop_one {α : Type} {l : List α} {i : Nat} {x : α} (h : l[i]? = some x) : (l.drop i).take 1 = [x] := by
  obtain ⟨hi, e⟩ := List.getElem?_eq_some_iff.1 h
  rw [List.drop_eq_getElem_cons hi, e]; rfl
/-- Cells that read as an array of integers. -/
theorem openArr {W : World} {t e : TypeId} {k : IntKind} {n fuel : Nat} {l : List Value} {x : DataW H × List MemPlace} {sp : Nat → Bool} {hd : Bool}
    (ht : Try.prog.underlying t = some (.array n e)) (he : Try.prog.underlying e = some (.int k)) (hc : Try.prog.cellsOf e = 1) (hct : Try.prog.cellsOf t = n)
    (h : DataW.trod enc Try.prog W 0 sp hd fuel t l = some x) : ∃ cs : List Int, l = ints k cs ∧ cs.length = n ∧ ∀ c ∈ cs, (Lit.int k c).wf = true := by
  obtain ⟨xs, m, _, _, hl, hx, hi⟩ := DataW.trod_array ht h
  rw [hct] at hl
  rw [hc] at hi
  have each : ∀ i, i < n → ∃ c : Int, l[i]? = some (.int k c) ∧ (Lit.int k c).wf = true := by
    intro i hin
    obtain ⟨v, hv⟩ := some_at (xs := l) (j := i) (by omega)
    have h2 := hi i hin
    rw [Nat.mul_one, take_drop_one hv] at h2
    obtain ⟨y, hy⟩ := some_at (xs := xs) (j := i) (by omega)
    rw [hy] at h2
    obtain ⟨c, e0, _, w0⟩ := DataW.trod_int he h2
    simp at e0
    exact ⟨c, by rw [hv, e0], w0⟩
  obtain ⟨q, hq⟩ := choose_lt each
  refine ⟨(List.range n).map q, ?_, by simp, ?_⟩
  · apply List.ext_getElem?
    intro i
    by_cases hin : i < n
    · rw [(hq i hin).1]; simp [ints, hin]
    · rw [List.getElem?_eq_none (by omega), List.getElem?_eq_none (by simp [ints]; omega)]
  · intro c hc
    obtain ⟨i, hi', rfl⟩ := List.mem_map.1 hc
    exact (hq i (by simpa using hi')).2
end
end Go.Proofs.Ytmdjhbkpekepgaa

/- From the form's reading of two tables, and of a slice of blocks, to the words of Mem. -/
namespace Go.Proofs.Ytmdjhbkpekepgaa
open Go.RowKit Go.ChangeShapes Go.WideShapes Go.ChangeAt Go.Deep
set_option linter.unusedVariables false
set_option linter.unusedSimpArgs false
set_option maxRecDepth 100000
section
variable {H : Type} {enc : TypeId × Value → H}
theorem block_cells {W : World} {sp : Nat → Bool} {hd : Bool} (fuel : Nat) (cs : List Value) (x : DataW H × List MemPlace) (h : DataW.trod enc Try.prog W 0 sp hd fuel 23 cs = some x) : ∃ is : List Int, cs = ints .i64 is ∧ is.length = 64 ∧ ∀ c ∈ is, (Lit.int .i64 c).wf = true :=
  openArr Try.underlying23 Try.underlying3 (by kernel_rfl) (by kernel_rfl) h
theorem tab_cells {W : World} {fuel : Nat} {L : List Value} {x : DataW H × List MemPlace} {sp : Nat → Bool} {hd : Bool} (hsz : L.length = 17) (hf : DataW.trod enc Try.prog W 0 sp hd fuel 27 L = some x) :
    ∃ (cs : List Int) (A : Option Addr) (c : Nat) (syms : List Int), L = tabCells cs A syms.length c ∧ cs.length = 16 ∧ (∀ x ∈ cs, -9223372036854775808 ≤ x ∧ x ≤ 9223372036854775807) ∧ Seen W W.heap.size A (ints .i64 syms) ∧ syms.length ≤ maxLen ∧ syms.length ≤ c := by
  obtain ⟨y0, y1, n, hx, _, h0, h1⟩ := trod_struct2 Try.underlying27 hf
  have c0 : Try.prog.cellsOf 24 = 16 := by kernel_rfl
  have c1 : Try.prog.cellsOf 25 = 1 := by kernel_rfl
  rw [c0] at h0
  rw [c1] at h1
  simp only [List.drop_zero] at h0
  obtain ⟨cs, e0, hcs, hwf⟩ := openArr Try.underlying24 Try.underlying3 (by kernel_rfl) c0 h0
  obtain ⟨A, len, cap, e1⟩ := Go.Joins.slice_form Try.underlying25 h1
  rw [e1] at h1
  obtain ⟨syms, rfl, hs, hw, hl, _, hlc, hb⟩ := openInts (W := W) (a := A) (len := len) (cap := cap) (d := y1.1) (p := y1.2) Try.underlying25 Try.underlying3 (by kernel_rfl) ⟨n, h1⟩
  have e2 : L = tabCells cs A syms.length cap := by
    rw [tabCells, ← e0, ← e1, List.take_of_length_le (l := L.drop 16) (by simp; omega), List.take_append_drop]
  exact ⟨cs, A, cap, syms, e2, hcs, fun x hx => bounds_i64 (hwf x hx), hs, hl, hlc⟩
end
end Go.Proofs.Ytmdjhbkpekepgaa

/- From the form's reading of a file that came in to the words of FileMem. -/
namespace Go.Proofs.Ytmdjhbkpekepgaa
open Go.RowKit Go.ChangeShapes Go.WideShapes Go.ChangeAt Go.Deep
set_option linter.unusedVariables false
set_option linter.unusedSimpArgs false
set_option maxRecDepth 100000
section
variable {H : Type} {enc : TypeId × Value → H}
theorem tabs_cells {W : World} {fuel : Nat} {L : List Value} {x : DataW H × List MemPlace} {sp : Nat → Bool} {hd : Bool} (hsz : L.length = 34) (hf : DataW.trod enc Try.prog W 0 sp hd fuel 29 L = some x) :
    ∃ (cs : List Int) (A : Option Addr) (c : Nat) (syms : List Int) (cs2 : List Int) (A2 : Option Addr) (c2 : Nat) (syms2 : List Int), L = tabsCells cs A syms.length c cs2 A2 syms2.length c2 ∧ cs.length = 16 ∧ (∀ x ∈ cs, -9223372036854775808 ≤ x ∧ x ≤ 9223372036854775807) ∧ Seen W W.heap.size A (ints .i64 syms) ∧ syms.length ≤ maxLen ∧ syms.length ≤ c ∧
      cs2.length = 16 ∧ (∀ x ∈ cs2, -9223372036854775808 ≤ x ∧ x ≤ 9223372036854775807) ∧ Seen W W.heap.size A2 (ints .i64 syms2) ∧ syms2.length ≤ maxLen ∧ syms2.length ≤ c2 := by
  obtain ⟨y0, y1, n, hx, _, h0, h1⟩ := trod_struct2 Try.underlying29 hf
  have c0 : Try.prog.cellsOf 27 = 17 := by kernel_rfl
  rw [c0] at h0 h1
  simp only [List.drop_zero] at h0
  obtain ⟨cs, A, c, syms, e0, g1, g2, g3, g4, g5⟩ := tab_cells (by simp; omega) h0
  obtain ⟨cs2, A2, c2, syms2, e1, k1, k2, k3, k4, k5⟩ := tab_cells (by simp; omega) h1
  have e2 : L = tabsCells cs A syms.length c cs2 A2 syms2.length c2 := by
    rw [tabsCells, ← e0, ← e1, List.take_of_length_le (l := L.drop 17) (by simp; omega), List.take_append_drop]
  exact ⟨cs, A, c, syms, cs2, A2, c2, syms2, e2, g1, g2, g3, g4, g5, k1, k2, k3, k4, k5⟩
theorem cut_on (L : List Value) (a n : Nat) : L.drop a = (L.drop a).take n ++ L.drop (a + n) := by rw [← List.drop_drop, List.take_append_drop]
/-- A file that came in. -/
theorem openFile {W : World} {base : Nat} {v : Value} {d : DataW H} {p : List MemPlace} {sp : Nat → Bool} {hd : Bool} (hv : Value.okWide Try.prog W .any base 32 v) (h : DataW.Trod enc Try.prog W 0 sp hd 32 v d p) :
    ∃ (f : FileL) (A : Option Addr) (c : Nat) (A2 : Option Addr) (c2 : Nat) (A3 : Option Addr) (c3 : Nat), v = fileV f A c A2 c2 A3 c3 ∧ FileIn f A c A2 c2 A3 c3 W.heap.size W := by
  obtain ⟨cells, rfl, hsz⟩ := okWide_struct Try.underlying32 hv
  have h103 : Try.prog.cellsOf 32 = 103 := by kernel_rfl
  rw [h103] at hsz
  obtain ⟨fuel, hf⟩ := h
  obtain ⟨xs, n, _, hx, hl, hxl, hi⟩ := DataW.trod_struct Try.underlying32 hf
  obtain ⟨L⟩ := cells
  simp only [List.size_toArray] at hsz
  simp only [Value.cells] at hi
  have h0 : DataW.trod enc Try.prog W 0 sp hd n 3 ((L.drop 0).take (Try.prog.cellsOf 3)) = xs[0]? := hi 0 _ rfl
  have h1 : DataW.trod enc Try.prog W 0 sp hd n 3 ((L.drop 1).take (Try.prog.cellsOf 3)) = xs[1]? := hi 1 _ rfl
  have h2 : DataW.trod enc Try.prog W 0 sp hd n 3 ((L.drop 2).take (Try.prog.cellsOf 3)) = xs[2]? := hi 2 _ rfl
  have h3 : DataW.trod enc Try.prog W 0 sp hd n 23 ((L.drop 3).take (Try.prog.cellsOf 23)) = xs[3]? := hi 3 _ rfl
  have h4 : DataW.trod enc Try.prog W 0 sp hd n 29 ((L.drop 67).take (Try.prog.cellsOf 29)) = xs[4]? := hi 4 _ rfl
  have h5 : DataW.trod enc Try.prog W 0 sp hd n 3 ((L.drop 101).take (Try.prog.cellsOf 3)) = xs[5]? := hi 5 _ rfl
  have h6 : DataW.trod enc Try.prog W 0 sp hd n 30 ((L.drop 102).take (Try.prog.cellsOf 30)) = xs[6]? := hi 6 _ rfl
  have hx7 : xs.length = 7 := hxl
  obtain ⟨y0, e0⟩ := some_at (xs := xs) (j := 0) (by omega)
  obtain ⟨y1, e1⟩ := some_at (xs := xs) (j := 1) (by omega)
  obtain ⟨y2, e2⟩ := some_at (xs := xs) (j := 2) (by omega)
  obtain ⟨y3, e3⟩ := some_at (xs := xs) (j := 3) (by omega)
  obtain ⟨y4, e4⟩ := some_at (xs := xs) (j := 4) (by omega)
  obtain ⟨y5, e5⟩ := some_at (xs := xs) (j := 5) (by omega)
  obtain ⟨y6, e6⟩ := some_at (xs := xs) (j := 6) (by omega)
  have c1 : Try.prog.cellsOf 3 = 1 := by kernel_rfl
  have c64 : Try.prog.cellsOf 23 = 64 := by kernel_rfl
  have c34 : Try.prog.cellsOf 29 = 34 := by kernel_rfl
  have cb : Try.prog.cellsOf 30 = 1 := by kernel_rfl
  rw [e0] at h0; rw [e1] at h1; rw [e2] at h2; rw [e3] at h3; rw [e4] at h4; rw [e5] at h5; rw [e6] at h6
  rw [c1] at h0 h1 h2 h5
  rw [c64] at h3
  rw [c34] at h4
  rw [cb] at h6
  obtain ⟨wide, q0, _, _⟩ := DataW.trod_int Try.underlying3 h0
  obtain ⟨high, q1, _, _⟩ := DataW.trod_int Try.underlying3 h1
  obtain ⟨parts, q2, _, _⟩ := DataW.trod_int Try.underlying3 h2
  obtain ⟨q, q3, hq64, hqw⟩ := block_cells n _ y3 h3
  obtain ⟨cs, A, c, syms, cs2, A2, c2, syms2, q4, g1, g2, g3, g4, g5, k1, k2, k3, k4, k5⟩ := tabs_cells (by simp; omega) h4
  obtain ⟨every, q5, _, _⟩ := DataW.trod_int Try.underlying3 h5
  obtain ⟨A3, len, cap, q6⟩ := Go.Joins.slice_form Try.underlying30 h6
  rw [q6] at h6
  obtain ⟨data, rfl, hs, hw, hdl, _, hlc, hb⟩ := openInts (W := W) (a := A3) (len := len) (cap := cap) (d := y6.1) (p := y6.2) Try.underlying30 Try.underlying5 (by kernel_rfl) ⟨n, h6⟩
  have e : L = fileCells { wide := wide, high := high, parts := parts, q := q, cs := cs, syms := syms, cs2 := cs2, syms2 := syms2, every := every, data := data } A c A2 c2 A3 cap := by
    have t0 := cut_on L 0 1
    have t1 := cut_on L 1 1
    have t2 := cut_on L 2 1
    have t3 := cut_on L 3 64
    have t4 := cut_on L 67 34
    have t5 := cut_on L 101 1
    have t6 := cut_on L 102 1
    have t7 : L.drop 103 = [] := List.drop_of_length_le (by omega)
    simp only [Nat.reduceAdd, Nat.zero_add] at t0 t1 t2 t3 t4 t5 t6
    rw [q0, t1, q1, t2, q2, t3, q3, t4, q4, t5, q5, t6, q6, t7] at t0
    rw [List.drop_zero] at t0
    rw [t0]
    simp [fileCells]
  refine ⟨_, A, c, A2, c2, A3, cap, by rw [fileV, ← e], ⟨⟨hq64, g1, k1⟩, g4, g5, g2, g3, k4, k5, k2, k3, fun x hx => bounds_u8 (hw x hx), hdl, hlc, hs⟩⟩
end
end Go.Proofs.Ytmdjhbkpekepgaa
