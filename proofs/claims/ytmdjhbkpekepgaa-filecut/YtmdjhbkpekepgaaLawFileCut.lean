/- The law on files that are cut, walked over the contracts. -/
import Derived.Test.YtmdjhbkpekepgaaBd3
import Derived.Test.YtmdjhbkpekepgaaBd4
import Derived.Deep.Cut
namespace Go.Proofs.Ytmdjhbkpekepgaa
open Go.RowKit
set_option linter.unusedVariables false
set_option linter.unusedSimpArgs false
set_option maxRecDepth 100000

theorem fset_dataC {f : FileL} {A : Option Addr} {c : Nat} {A2 : Option Addr} {c2 : Nat} {A3 : Option Addr} {c3 : Nat} (h : f.Form) (A' : Option Addr) (d : List Int) (c' : Nat) : (fileCells f A c A2 c2 A3 c3).set 102 (.slice A' d.length c') = fileCells { f with data := d } A c A2 c2 A' c' :=
  fset_data (f := f) (a := fun i => if i = 0 then A else A2) (c := fun i => if i = 0 then c else c2) (A3 := A3) (c3 := c3) h A' d c'
theorem FileIn.grown {f : FileL} {A : Option Addr} {c : Nat} {A2 : Option Addr} {c2 : Nat} {A3 : Option Addr} {c3 G g : Nat} {w w' : World} (h : FileIn f A c A2 c2 A3 c3 G w) (hg : w.grownBy w' (some g)) (h1 : G ≤ g) (h2 : G ≤ w.heap.size) : FileIn f A c A2 c2 A3 c3 G w' :=
  ⟨h.form, h.max, h.cap, h.bnd, h.see.grown hg h1 h2, h.max2, h.cap2, h.bnd2, h.see2.grown hg h1 h2, h.bytes, h.max3, h.cap3, h.see3.grown hg h1 h2⟩
theorem FileIn.aside {f : FileL} {A : Option Addr} {c : Nat} {A2 : Option Addr} {c2 : Nat} {A3 : Option Addr} {c3 G B g : Nat} {w w' : World} (h : FileIn f A c A2 c2 A3 c3 G w) (f1 : freshA B A) (f2 : freshA B A2) (f3 : freshA B A3) (hg : w.grownBy w' (some g)) (h1 : g < B) (h2 : G ≤ w.heap.size) : FileIn f A c A2 c2 A3 c3 G w' :=
  ⟨h.form, h.max, h.cap, h.bnd, h.see.aside f1 hg h1 h2, h.max2, h.cap2, h.bnd2, h.see2.aside f2 hg h1 h2, h.bytes, h.max3, h.cap3, h.see3.aside f3 hg h1 h2⟩
/-- With less data. -/
theorem FileIn.less {f : FileL} {A : Option Addr} {c : Nat} {A2 : Option Addr} {c2 : Nat} {A3 : Option Addr} {c3 G : Nat} {w : World} (h : FileIn f A c A2 c2 A3 c3 G w) (m : Nat) : FileIn { f with data := f.data.take m } A c A2 c2 A3 c3 G w :=
  ⟨⟨h.form.q, h.form.cs, h.form.cs2⟩, h.max, h.cap, h.bnd, h.see, h.max2, h.cap2, h.bnd2, h.see2, fun x hx => h.bytes x (List.mem_of_mem_take hx), Nat.le_trans (by simp only [List.length_take]; omega) h.max3, Nat.le_trans (by simp only [List.length_take]; omega) h.cap3, h.see3.takeInts m⟩
set_option maxRecDepth 100000 in
set_option maxHeartbeats 8000000 in
theorem fileCut_by (HP : FPackSpec) (HS : FParseSpec) (f : FileL) (A : Option Addr) (c : Nat) (A2 : Option Addr) (c2 : Nat) (A3 : Option Addr) (c3 : Nat) (at_ : Int) (w : World) (hf : FileIn f A c A2 c2 A3 c3 w.heap.size w) (hat : -9223372036854775808 ≤ at_ ∧ at_ ≤ 9223372036854775807) :
    Calls Try.prog 7 #[fileV f A c A2 c2 A3 c3, .int .i64 at_] w fun e w' => e = .returned (.bool true) ∧ Below w.heap.size w w' := by
  have hzv := run_zero_file
  have hb0 := below1 w (.cells (fileCells f A c A2 c2 A3 c3).toArray 32)
  have hz0 : (w.alloc (.cells (fileCells f A c A2 c2 A3 c3).toArray 32)).heap.size = w.heap.size + 1 := by simp
  have HB := Blk.new w (fileCells f A c A2 c2 A3 c3) 32
  have Hlen := veil (fileCells_length hf.form A c A2 c2 A3 c3)
  have H1 := veil (fun W (h : FileIn f A c A2 c2 A3 c3 w.heap.size W) hG => HP f A c A2 c2 A3 c3 w.heap.size W h hG)
  have H3 := veil (fun O A c G W h1 h2 h3 h4 h5 => HS O A c G W h1 h2 h3 h4 h5)
  have HFd := veil (filed_any HP (w.alloc (.cells (fileCells f A c A2 c2 A3 c3).toArray 32)))
  have Hf := veil hf; have Hat := veil hat
  have hk5 : (fileCells f A c A2 c2 A3 c3)[102]? = some (.slice A3 f.data.length c3) := fget_data (f := f) (a := fun i => if i = 0 then A else A2) (c := fun i => if i = 0 then c else c2) hf.form
  have hset := fun m => fset_dataC (f := f) (A := A) (c := c) (A2 := A2) (c2 := c2) (A3 := A3) (c3 := c3) hf.form A3 (f.data.take m) c3
  obtain ⟨E, hE⟩ : ∃ E, E = eFile f := ⟨_, rfl⟩
  obtain ⟨O, hO⟩ : ∃ O, O = oPack f := ⟨_, rfl⟩
  have HO0 : Hid (E ≠ 0 → O = []) := by show _ → _; intro h; rw [hO]; exact if_neg (by rw [← hE]; exact h)
  have HO1 : Hid (E = 0 → eFile f = 0 ∧ O = packF f) := by
    show _ → _
    intro h
    have h0 : eFile f = 0 := by rw [← hE]; exact h
    exact ⟨h0, by rw [hO]; exact if_pos h0⟩
  rw [← hE, ← hO] at H1
  have Hk5 := veil hk5; have Hset := veil hset
  clear hf hat hE hO HP HS hk5 hset
  unfold fileV at H1 ⊢
  generalize hzs : fileCells f A c A2 c2 A3 c3 = zs at hb0 hz0 HB Hlen H1 HFd Hk5 Hset ⊢
  have Hzs := veil hzs
  clear hzs
  have hr := HB.range
  go_enter Try.func7, Try.ntmps7
  go_wp2_with fail
  refine HFd.out.mono ?_
  rintro e w1 ⟨rfl, hb1⟩
  have hz1 := hb1.size
  rw [hz0] at hz1
  have HB1 := veil (HB.below hb1 (by omega))
  have hr1 := HB1.out.range
  have hbw1 := hb0.trans (hb1.mono (by omega))
  clear hr hb0 hb1 HFd HB
  go_wp2_with (first
    | (refine wpList_load_mid rfl 32 (.tmp 2) rfl w.heap.size 0 rfl zs _ hr1 Try.underlying32 rfl (info_file Hlen.out) ?_)
    | fail)
  refine (H1.out _ (Hf.out.below hbw1 (Nat.le_refl _)) (by omega)).mono ?_
  rintro e w2 ⟨v1, rfl, HO, hb2⟩
  obtain ⟨A4, c4, hv4, hs4, hc4, _⟩ := HO.seen (List.mem_cons_self ..)
  obtain rfl : v1 = .slice A4 O.length c4 := hv4
  have hs4' : Seen w2 w2.heap.size A4 (ints .u8 O) := hs4
  have Hs4 := veil hs4'
  have Hc4 : Hid (O.length ≤ c4) := hc4
  have HB2 := veil (HB1.out.below hb2 (by omega))
  have hbw2 := hbw1.trans (hb2.mono (by omega))
  have hz2 := hb2.size
  clear hr1 hb2 H1 HO hs4 hs4' hbw1 hc4 HB1
  by_cases h0 : E = 0
  · subst h0
    obtain ⟨hE0, hOp⟩ := HO1.out rfl
    have hOl : O.length ≤ 91000 := by rw [hOp]; have := pack_long Hf.out.form hE0; omega
    have hOb : Bytes O := by rw [hOp]; exact packF_bytes Hf.out.form hE0 Hf.out.bytes
    have hOt : O.length = topF f + f.data.length := by rw [hOp]; exact packF_length Hf.out.form
    obtain ⟨k, hk, hkl⟩ : ∃ k : Nat, at_ % ((O.length : Int) + 1) = (k : Int) ∧ k ≤ O.length := by
      have h1 := Int.emod_nonneg at_ (show (O.length : Int) + 1 ≠ 0 by omega)
      have h2 := Int.emod_lt_of_pos at_ (show 0 < (O.length : Int) + 1 by omega)
      exact ⟨(at_ % ((O.length : Int) + 1)).toNat, by omega, by omega⟩
    have hRe := rest_any at_ ((O.length : Int) + 1) w2 (by omega) (by omega) Hat.out
    rw [hk] at hRe
    have htl : (O.take k).length = k := by rw [List.length_take]; omega
    have hPa := H3.out (O.take k) A4 c4 w2.heap.size w2 (Hs4.out.takeInts k) (fun x hx => hOb x (List.mem_of_mem_take hx)) (by rw [htl]; unfold maxLen; omega) (by rw [htl]; have := Hc4.out; omega) (Nat.le_refl _)
    rw [htl] at hPa
    have hsl := fun u => run_cutB_to A4 O.length c4 k (by have := Hc4.out; omega) u
    obtain ⟨t, ht⟩ : ∃ t, t = topF f := ⟨_, rfl⟩
    rw [← ht] at hOt
    have hc1 : k < t → eParse (O.take k) = 3 := fun h => by rw [hOp]; exact cut_at Hf.out.form hE0 (by rw [← ht]; exact h)
    have hc2 : t ≤ k → eParse (O.take k) = 0 ∧ oParse (O.take k) = { f with data := f.data.take (k - t) } := fun h => by rw [hOp, ht]; exact cut_in Hf.out.form hE0 (by rw [← ht]; exact h)
    have HRe := veil hRe; have HPa := veil hPa; have Hc1 := veil hc1; have Hc2 := veil hc2
    have hsub : (O.length : Int) - (f.data.length : Int) = (t : Int) := by omega
    have k5 := HB2.out.cell Hk5.out
    have hdl : f.data.length ≤ 91000 := by omega
    clear hRe hPa hc1 hc2 hOp hOb hE0 hk htl ht HO0 HO1 H3 Hs4 hOt
    go_wp2_with fail
    refine HRe.out.mono ?_
    rintro e w3 ⟨rfl, hw3⟩
    subst hw3
    go_wp2_with fail
    refine HPa.out.mono ?_
    rintro e w4 ⟨B1, d1, B2, d2, B3, d3, rfl, hF4, hb4, f1, f2, f3⟩
    have hz4 := hb4.size
    obtain ⟨y, hy⟩ : ∃ y, y = oParse (O.take k) := ⟨_, rfl⟩
    obtain ⟨P, hPe⟩ : ∃ P, P = eParse (O.take k) := ⟨_, rfl⟩
    rw [← hy] at hF4 ⊢
    rw [← hPe]
    have Hy := veil hy; have HPe := veil hPe
    have Hl2 := veil (fileCells_length hF4.form B1 d1 B2 d2 B3 d3)
    have Ho2 := veil (fileCells_one (f := y) (A := B1) (c := d1) (A2 := B2) (c2 := d2) (A3 := B3) (c3 := d3))
    have HEq : Hid (∀ (m : Nat) G W, y = { f with data := f.data.take m } → FileIn { f with data := f.data.take m } A c A2 c2 A3 c3 G W → FileIn y B1 d1 B2 d2 B3 d3 G W → G ≤ W.heap.size → Calls Try.prog 16 #[fileV { f with data := f.data.take m } A c A2 c2 A3 c3, fileV y B1 d1 B2 d2 B3 d3] W fun e w' => e = .returned (.bool true) ∧ Below W.heap.size W w') := by
      show ∀ _, _
      intro m G W hym h1 h2 hG
      have h9 := fileEq_any { f with data := f.data.take m } A c A2 c2 A3 c3 y B1 d1 B2 d2 B3 d3 G W h1 h2 hG
      rw [sameF_iff.2 hym.symm] at h9
      exact h9
    have HF4 := veil hF4
    have F1 := veil f1; have F2 := veil f2; have F3 := veil f3
    clear hy hPe hF4 HPa HRe hsl k5 f1 f2 f3
    unfold fileV at HEq ⊢
    generalize fileCells y B1 d1 B2 d2 B3 d3 = ys at *
    have hbc := below1 w4 (.cells ys.toArray 32)
    have hzc : (w4.alloc (.cells ys.toArray 32)).heap.size = w4.heap.size + 1 := by simp
    have hHB5 := veil ((HB2.out.below hb4 (by omega)).below hbc (by omega))
    have hHy5 := veil (Blk.new w4 ys 32)
    have k5 := hHB5.out.cell Hk5.out
    have hbw5 := (hbw2.trans (hb4.mono (by omega))).trans (hbc.mono (by omega))
    have HF5 := veil (HF4.out.below hbc (Nat.le_refl _))
    have Hbw5 := veil hbw5
    clear HB2 hb4 hbc HF4 hbw5
    by_cases hkt : k < t
    · have hktz : (k : Int) < (t : Int) := by omega
      have hP3 : P = 3 := HPe.out.trans (Hc1.out hkt)
      subst hP3
      clear HEq HF5 Hc1 Hc2
      go_wp2_with (first
        | (refine wpList_store_new w4 rfl 32 (.tmp 7) (.tmp 32) rfl noCells.toArray ys rfl rfl (info_file Hl2.out) (by rw [Hl2.out]; simp [noCells_length]) Ho2.out ?_)
        | fail)
      go_ret
      exact ⟨rfl, Hbw5.out⟩
    · have hktz : ¬ (k : Int) < (t : Int) := by omega
      obtain ⟨p1, p2⟩ := Hc2.out (by omega)
      have hP0 : P = 0 := HPe.out.trans p1
      subst hP0
      have hyf := Hy.out.trans p2
      obtain ⟨m, hm⟩ : ∃ m, m = k - t := ⟨_, rfl⟩
      rw [← hm] at hyf
      have hmz : (k : Int) - (t : Int) = (m : Int) := by omega
      have hml : m ≤ f.data.length := by omega
      have hsl2 := fun u => run_cutB_to A3 f.data.length c3 m (by have := Hf.out.cap3; omega) u
      have fr5 := hHB5.out.frozen 102
      have Hyf := veil hyf
      clear p1 p2 hyf hm Hc1 Hc2 Hy
      go_upto_region 9 with (first
        | (refine wpList_store_new w4 rfl 32 (.tmp 7) (.tmp 32) rfl noCells.toArray ys rfl rfl (info_file Hl2.out) (by rw [Hl2.out]; simp [noCells_length]) Ho2.out ?_)
        | fail)
      obtain ⟨W5, hW5⟩ : ∃ W5, W5 = w4.alloc (.cells ys.toArray 32) := ⟨_, rfl⟩
      rw [← hW5] at hHB5 hHy5 k5 HF5 Hbw5 fr5 hzc ⊢
      clear hW5
      go_upto_region 12 with fail
      have hgr := grown_setCell W5 w.heap.size 102 (.slice A3 m c3)
      have hml2 : (f.data.take m).length = m := by rw [List.length_take]; omega
      have hset := hHB5.out.set 102 (.slice A3 (f.data.take m).length c3)
      rw [Hset.out m, hml2] at hset
      obtain ⟨W6, hW6⟩ : ∃ W6, W6 = W5.setCell ⟨w.heap.size, 102, none⟩ (.slice A3 m c3) := ⟨_, rfl⟩
      rw [← hW6] at hset hgr ⊢
      have hz6 := hgr.size
      have hI1 := ((Hf.out.below Hbw5.out (Nat.le_refl _)).grown hgr (Nat.le_refl _) (by omega)).less m
      have hI2 := HF5.out.aside F1.out F2.out F3.out hgr (by omega) (by omega)
      have HQ := veil (HEq.out m w4.heap.size W6 Hyf.out (hI1.up (by omega)) hI2 (by omega))
      have hfin := Hbw5.out.grown hgr Hbw5.out.size (fun j hj => by injection hj with hj; omega)
      have Hfin := veil hfin
      have hry := (hHy5.out.kept hgr (by simp; omega)).range
      have hlen6 : (fileCells { f with data := f.data.take m } A c A2 c2 A3 c3).length = 103 := fileCells_length (f := { f with data := f.data.take m }) ⟨Hf.out.form.q, Hf.out.form.cs, Hf.out.form.cs2⟩ A c A2 c2 A3 c3
      have Hl6 := veil hlen6
      have hrx := hset.range
      generalize fileCells { f with data := f.data.take m } A c A2 c2 A3 c3 = xs at hrx Hl6 HQ
      clear hW6 hset hgr hI1 hI2 hfin HEq k5 fr5 hsl2 hlen6 HF5 hHB5 hHy5
      go_wp2_with (first
        | (refine wpList_load_late 32 (.tmp 2) rfl (by kernel_rfl) w.heap.size 0 rfl xs _ hrx Try.underlying32 rfl (info_file Hl6.out) ?_)
        | (refine wpList_load_late 32 (.tmp 7) rfl (by kernel_rfl) w4.heap.size 0 rfl ys _ hry Try.underlying32 rfl (info_file Hl2.out) ?_)
        | fail)
      refine HQ.out.mono ?_
      rintro e w7 ⟨rfl, hb7⟩
      have hfin := Hfin.out.trans (hb7.mono (by have := Hfin.out.size; omega))
      go_wp2
      go_ret
      exact ⟨rfl, hfin⟩
  · have hOn := HO0.out h0
    subst hOn
    have hne : (E != 0) = true := by simpa using h0
    clear h0 HO0 HO1
    go_wp2_with fail
    go_ret
    exact ⟨rfl, hbw2⟩
end Go.Proofs.Ytmdjhbkpekepgaa
