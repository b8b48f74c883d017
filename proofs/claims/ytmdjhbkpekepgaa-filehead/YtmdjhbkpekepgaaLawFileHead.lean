/- The law on a file's first bytes, walked over Pack's contract. -/
import Derived.Test.YtmdjhbkpekepgaaBd3
import Derived.Deep.Cut
import Derived.Deep.QuietTactic
import Derived.BigQuiet
import Derived.Laws.BytesArg
namespace Go.Proofs.Ytmdjhbkpekepgaa
open Go.RowKit
set_option linter.unusedVariables false
set_option linter.unusedSimpArgs false
set_option maxRecDepth 100000

theorem seen_at {w : World} {G gs os k : Nat} {bs : List Int} {x : Int} (h : Seen w G (some ⟨gs, os, none⟩) (ints .u8 bs)) (hx : bs[k]? = some x) : w.cell? ⟨gs, os + k, none⟩ = some (.int .u8 x) := by
  obtain ⟨g2, o2, e4, _, hc⟩ := h.cell (ints_at hx)
  obtain ⟨rfl, rfl⟩ : gs = g2 ∧ os = o2 := by simpa using e4
  exact hc
set_option maxRecDepth 100000 in
set_option maxHeartbeats 8000000 in
theorem fileHead_by (HP : FPackSpec) (f : FileL) (A : Option Addr) (c : Nat) (A2 : Option Addr) (c2 : Nat) (A3 : Option Addr) (c3 : Nat) (w : World) (hf : FileIn f A c A2 c2 A3 c3 w.heap.size w) :
    Calls Try.prog 8 #[fileV f A c A2 c2 A3 c3] w fun e w' => e = .returned (.bool true) ∧ Below w.heap.size w w' := by
  have hb0 := below1 w (.cells (fileCells f A c A2 c2 A3 c3).toArray 32)
  have hz0 : (w.alloc (.cells (fileCells f A c A2 c2 A3 c3).toArray 32)).heap.size = w.heap.size + 1 := by simp
  have hr := range_new w (fileCells f A c A2 c2 A3 c3) 32
  have hat := fileAt_of hf.form hr
  have Hlen := veil (fileCells_length hf.form A c A2 c2 A3 c3)
  have H1 := veil (fun W (h : FileIn f A c A2 c2 A3 c3 w.heap.size W) hG => HP f A c A2 c2 A3 c3 w.heap.size W h hG)
  have HFd := veil (filed_any HP (w.alloc (.cells (fileCells f A c A2 c2 A3 c3).toArray 32)))
  have Hf := veil hf
  obtain ⟨E, hE⟩ : ∃ E, E = eFile f := ⟨_, rfl⟩
  obtain ⟨O, hO⟩ : ∃ O, O = oPack f := ⟨_, rfl⟩
  have HO0 : Hid (E ≠ 0 → O = []) := by show _ → _; intro h; rw [hO]; exact if_neg (by rw [← hE]; exact h)
  have HO1 : Hid (E = 0 → O = packF f ∧ PackIs f) := by show _ → _; intro h; rw [hO]; exact ⟨if_pos (by rw [← hE]; exact h), packIs_of hf.form (by rw [← hE]; exact h) hf.bytes⟩
  rw [← hE, ← hO] at H1
  have HAt := veil hat
  have Ht := veil (tabCells_length (A := A) (n := f.syms.length) (c := c) hf.form.cs)
  have Hl1 := veil (tabCells_last (A := A) (n := f.syms.length) (c := c) hf.form.cs)
  have Hl2 := veil (tabCells_last (A := A2) (n := f.syms2.length) (c := c2) hf.form.cs2)
  clear hf hE hO HP hat
  unfold fileV at H1 ⊢
  generalize fileCells f A c A2 c2 A3 c3 = zs at *
  go_enter Try.func8, Try.ntmps8
  go_wp2_with fail
  refine HFd.out.mono ?_
  rintro e w1 ⟨rfl, hb1⟩
  have hz1 := hb1.size
  rw [hz0] at hz1
  have hr1 := range_below hr hb1 (by omega)
  have HAt1 := veil (HAt.out.below hb1 (by omega))
  have hbw1 := hb0.trans (hb1.mono (by omega))
  clear hr hb0 hb1 HFd HAt
  go_wp2_with (first
    | (refine wpList_load_mid rfl 32 (.tmp 1) rfl w.heap.size 0 rfl zs _ hr1 Try.underlying32 rfl (info_file Hlen.out) ?_)
    | fail)
  refine (H1.out _ (Hf.out.below hbw1 (Nat.le_refl _)) (by omega)).mono ?_
  rintro e w2 ⟨v1, rfl, HO, hb2⟩
  obtain ⟨A4, c4, hv4, hs4, hc4, _⟩ := HO.seen (List.mem_cons_self ..)
  obtain rfl : v1 = .slice A4 O.length c4 := hv4
  have hs4' : Seen w2 w2.heap.size A4 (ints .u8 O) := hs4
  have hat2 := HAt1.out.below hb2 (by omega)
  have hbw2 := hbw1.trans (hb2.mono (by omega))
  have hc4' : O.length ≤ c4 := hc4
  clear hr1 hb2 H1 HO hs4 HAt1 hbw1 hc4
  by_cases h0 : E = 0
  · subst h0
    obtain ⟨hOp, hpk⟩ := HO1.out rfl
    have h8 : packF f = 77 :: 90 :: f.wide :: f.high :: f.parts :: f.every :: (toL f.q ++ (tabB f.cs f.syms ++ (tabB f.cs2 f.syms2 ++ f.data))) := by
      unfold packF headF; simp
    have hln : O.length = 134 + f.syms.length + f.syms2.length + f.data.length := by rw [hOp, packF_length Hf.out.form, topF]
    have g0 : O[0]? = some 77 := by rw [hOp, h8]; rfl
    have g1 : O[1]? = some 90 := by rw [hOp, h8]; rfl
    have g2 : O[2]? = some f.wide := by rw [hOp, h8]; rfl
    have g3 : O[3]? = some f.high := by rw [hOp, h8]; rfl
    have g4 : O[4]? = some f.parts := by rw [hOp, h8]; rfl
    have g5 : O[5]? = some f.every := by rw [hOp, h8]; rfl
    obtain ⟨gs, os, e4, _, _⟩ := hs4'.cell (ints_at g0)
    subst e4
    have d0 := seen_at hs4' g0
    rw [Nat.add_zero] at d0
    have d1 := seen_at hs4' g1
    have d2 := seen_at hs4' g2
    have d3 := seen_at hs4' g3
    have d4 := seen_at hs4' g4
    have d5 := seen_at hs4' g5
    have k1 := hat2.wide; have k2 := hat2.high; have k3 := hat2.parts; have k4 := hat2.every; have k5 := hat2.data
    have r1 := range_left hat2.tabs
    have r2 := range_right hat2.tabs
    rw [Ht.out] at r2
    have k6 := r1 16 _ Hl1.out
    have k7 := r2 16 _ Hl2.out
    simp only [Nat.reduceAdd] at k6 k7
    have wa := hpk.wide.1; have wb := hpk.wide.2; have ha := hpk.high.1; have hb := hpk.high.2; have pa := hpk.parts.1; have pb := hpk.parts.2; have ea := hpk.every.1; have eb := hpk.every.2
    have s1 := hpk.t1.few; have s2 := hpk.t2.few; have s3 := hpk.data
    have hlz : (O.length : Int) = 134 + (f.syms.length : Int) + (f.syms2.length : Int) + (f.data.length : Int) := by omega
    have hge : (134 : Int) ≤ (O.length : Int) := by omega
    have hsl : ∀ u, (Instr.sliceAt 30 (.slice (some ⟨gs, os, none⟩) O.length c4) none (some (.int .i64 2)) none).run Try.prog u = .ok (.slice (some ⟨gs, os, none⟩) 2 c4) u := fun u => run_cutB_to (some ⟨gs, os, none⟩) O.length c4 2 (by omega) u
    have hcv : ∀ n, (convert 30 9 (.slice (some ⟨gs, os, none⟩) 2 c4)).run Try.prog (w2.drewN n) = .ok (.string ⟨#[77, 90]⟩) (w2.drewN n) := fun n =>
      run_convert_bytes_arg (P := Try.prog) (w2.drewN n) 30 5 Try.underlying30 Try.underlying5 gs os 2 c4 [77, 90] rfl (fun i hi => by
        have : i = 0 ∨ i = 1 := by omega
        rcases this with rfl | rfl
        · exact d0
        · exact d1) 9 Try.underlying9
    clear hat2 r1 r2 hpk hOp h8 g0 g1 g2 g3 g4 g5 hs4' HO0 HO1 hln Ht Hl1 Hl2
    generalize f.wide = wide at *
    generalize f.high = high at *
    generalize f.parts = parts at *
    generalize f.every = every at *
    have e1 : IntKind.i64.wrap wide = wide := by rw [IntKind.wrap_i64]; omega
    have e2 : IntKind.i64.wrap high = high := by rw [IntKind.wrap_i64]; omega
    have e3 : IntKind.i64.wrap parts = parts := by rw [IntKind.wrap_i64]; omega
    have e4 : IntKind.i64.wrap every = every := by rw [IntKind.wrap_i64]; omega
    have e5 : IntKind.i64.wrap (134 + (f.syms.length : Int)) = 134 + (f.syms.length : Int) := by rw [IntKind.wrap_i64]; omega
    have e6 : IntKind.i64.wrap (134 + (f.syms.length : Int) + (f.syms2.length : Int)) = 134 + (f.syms.length : Int) + (f.syms2.length : Int) := by rw [IntKind.wrap_i64]; omega
    have e7 : IntKind.i64.wrap (134 + (f.syms.length : Int) + (f.syms2.length : Int) + (f.data.length : Int)) = (O.length : Int) := by rw [IntKind.wrap_i64]; omega
    have l2 : (2 : Int) < (O.length : Int) := by omega
    have l3 : (3 : Int) < (O.length : Int) := by omega
    have l4 : (4 : Int) < (O.length : Int) := by omega
    have l5 : (5 : Int) < (O.length : Int) := by omega
    have hgd : decide ((134 : Int) ≤ (O.length : Int)) = true := decide_eq_true hge
    clear hlz hge
    go_upto_region 6 with fail
    go_quiet (fail)
    have hfin := hbw2.drewN nq
    go_wp2
    go_ret
    exact ⟨rfl, hfin⟩
  · have hOn := HO0.out h0
    subst hOn
    have hne : (E != 0) = true := by simpa using h0
    clear h0 hat2 hs4' HO0 HO1
    go_wp2_with fail
    go_ret
    exact ⟨rfl, hbw2⟩
end Go.Proofs.Ytmdjhbkpekepgaa
