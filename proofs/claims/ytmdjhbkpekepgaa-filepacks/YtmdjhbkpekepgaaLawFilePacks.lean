/- The law on file.Pack, walked over its contract. -/
import Derived.Test.YtmdjhbkpekepgaaBd3
import Derived.Test.YtmdjhbkpekepgaaBd4
import Derived.Deep.Cut
namespace Go.Proofs.Ytmdjhbkpekepgaa
open Go.RowKit
set_option linter.unusedVariables false
set_option linter.unusedSimpArgs false
set_option maxRecDepth 100000

theorem oPack_len {f : FileL} (h : f.Form) : (oPack f).length ≤ 1048576 := by
  unfold oPack; split
  · rename_i h0; have := pack_long h h0; omega
  · simp
set_option maxRecDepth 100000 in
set_option maxHeartbeats 4000000 in
theorem filePacks_by (HK : FCheckSpec) (HP : FPackSpec) (f : FileL) (A : Option Addr) (c : Nat) (A2 : Option Addr) (c2 : Nat) (A3 : Option Addr) (c3 : Nat) (w : World) (hf : FileIn f A c A2 c2 A3 c3 w.heap.size w) :
    Calls Try.prog 4 #[fileV f A c A2 c2 A3 c3] w fun e w' => e = .returned (.bool true) ∧ Below w.heap.size w w' := by
  have hzv := run_zero_file
  have hb0 := below1 w (.cells (fileCells f A c A2 c2 A3 c3).toArray 32)
  have hz0 : (w.alloc (.cells (fileCells f A c A2 c2 A3 c3).toArray 32)).heap.size = w.heap.size + 1 := by simp
  have hr := range_new w (fileCells f A c A2 c2 A3 c3) 32
  have Hlen := veil (fileCells_length hf.form A c A2 c2 A3 c3)
  have H1 := veil (fun W (h : FileIn f A c A2 c2 A3 c3 w.heap.size W) hG => HP f A c A2 c2 A3 c3 w.heap.size W h hG)
  have H2 := veil (fun W (h : FileIn f A c A2 c2 A3 c3 w.heap.size W) hG => refFilePack_any f A c A2 c2 A3 c3 w.heap.size W h hG)
  have HN := veil (noCheck_any HK)
  have Hol := veil (oPack_len hf.form)
  have Hf := veil hf
  obtain ⟨E, hE⟩ : ∃ E, E = eFile f := ⟨_, rfl⟩
  obtain ⟨O, hO⟩ : ∃ O, O = oPack f := ⟨_, rfl⟩
  rw [← hE, ← hO] at H1 H2
  rw [← hO] at Hol
  clear hf hE hO HK HP
  unfold fileV at H1 H2 ⊢
  generalize fileCells f A c A2 c2 A3 c3 = zs at *
  go_enter Try.func4, Try.ntmps4
  go_wp2_with (first
    | (refine wpList_load_mid rfl 32 (.tmp 1) rfl w.heap.size 0 rfl zs _ hr Try.underlying32 rfl (info_file Hlen.out) ?_)
    | fail)
  refine (H1.out _ (Hf.out.below hb0 (Nat.le_refl _)) (by omega)).mono ?_
  rintro e w1 ⟨v1, rfl, HO1, hb1⟩
  obtain ⟨A4, c4, hv4, hs4, _, _⟩ := HO1.seen (List.mem_cons_self ..)
  obtain rfl : v1 = .slice A4 O.length c4 := hv4
  have hs4' : Seen w1 w1.heap.size A4 (ints .u8 O) := hs4
  have hr1 := range_below hr hb1 (by omega)
  have hbw1 := hb0.trans (hb1.mono (by omega))
  have hz1 := hb1.size
  rw [hz0] at hz1
  have Hs4 := veil hs4'
  clear hr hb0 hb1 H1 HO1 hs4 hs4'
  go_wp2_with (first
    | (refine wpList_load_mid rfl 32 (.tmp 1) rfl w.heap.size 0 rfl zs _ hr1 Try.underlying32 rfl (info_file Hlen.out) ?_)
    | fail)
  refine (H2.out _ (Hf.out.below hbw1 (Nat.le_refl _)) (by omega)).mono ?_
  rintro e w2 ⟨v2, rfl, HO2, hb2⟩
  obtain ⟨A5, c5, hv5, hs5, _, _⟩ := HO2.seen (List.mem_cons_self ..)
  obtain rfl : v2 = .slice A5 O.length c5 := hv5
  have hs5' : Seen w2 w2.heap.size A5 (ints .u8 O) := hs5
  have hbw2 := hbw1.trans (hb2.mono (by omega))
  have hz2 := hb2.size
  have hol := Hol.out
  have hEq := eqByte A4 A5 c4 c5 w2.heap.size O O w2 ((Hs4.out.below hb2 (Nat.le_refl _)).up hz2) hs5' (by unfold maxLen; omega) (by unfold maxLen; omega)
  rw [decide_eq_true (rfl : O = O)] at hEq
  have HEq := veil hEq
  clear hEq hr1 hb2 H2 HO2 hs5 hs5' Hs4 hbw1
  go_wp2_with fail
  refine HEq.out.mono ?_
  rintro e w3 ⟨rfl, hw3⟩
  subst hw3
  go_wp2_with fail
  refine (HN.out _).mono ?_
  rintro e w4 ⟨rfl, hb4⟩
  have hf := hbw2.trans (hb4.mono (by omega))
  go_wp2
  go_ret
  exact ⟨rfl, hf⟩
end Go.Proofs.Ytmdjhbkpekepgaa
