/- The law on file.Parse, walked over its contract. -/
import Derived.Test.YtmdjhbkpekepgaaBd3
import Derived.Test.YtmdjhbkpekepgaaBd5
import Derived.Deep.Cut
namespace Go.Proofs.Ytmdjhbkpekepgaa
open Go.RowKit
set_option linter.unusedVariables false
set_option linter.unusedSimpArgs false
set_option maxRecDepth 100000

set_option maxRecDepth 100000 in
set_option maxHeartbeats 4000000 in
theorem fileParses_by (HK : FCheckSpec) (HS : FParseSpec) (A : Option Addr) (c : Nat) (bs : List Int) (w : World) (hs : Seen w w.heap.size A (ints .u8 bs)) (hby : Bytes bs) (hl : bs.length ≤ maxLen) (hcap : bs.length ≤ c) :
    Calls Try.prog 5 #[.slice A bs.length c] w fun e w' => e = .returned (.bool true) ∧ Below w.heap.size w w' := by
  have hzv := run_zero_file
  have H1 := veil (HS bs A c w.heap.size w hs hby hl hcap (Nat.le_refl _))
  have H2 := veil (fun W h hG => refFileParse_any bs A c w.heap.size W h hby hl hcap hG)
  have HN := veil (noCheck_any HK)
  have HEq := veil (fun A B c d A2 B2 c2 d2 A3 B3 c3 d3 G W h h' hG => fileEq_any (oParse bs) A c A2 c2 A3 c3 (oParse bs) B d B2 d2 B3 d3 G W h h' hG)
  have hsame : sameF (oParse bs) (oParse bs) = true := sameF_iff.2 rfl
  rw [hsame] at HEq
  have Hs := veil hs
  obtain ⟨E, hE⟩ : ∃ E, E = eParse bs := ⟨_, rfl⟩
  have HE := veil hE
  clear HK HS hs hsame hE hby hl hcap
  go_enter Try.func5, Try.ntmps5
  go_wp2_with fail
  refine H1.out.mono ?_
  rintro e w1 ⟨A1, c1, A2, c2, A3, c3, rfl, hF1, hb1, _⟩
  have hz1 := hb1.size
  rw [← HE.out]
  have Hl1 := veil (fileCells_length hF1.form A1 c1 A2 c2 A3 c3)
  have Ho1 := veil (fileCells_one (f := oParse bs) (A := A1) (c := c1) (A2 := A2) (c2 := c2) (A3 := A3) (c3 := c3))
  have HF1 := veil hF1
  have HEq1 := veil (fun B d B2 d2 B3 d3 G W h h' hG => HEq.out A1 B c1 d A2 B2 c2 d2 A3 B3 c3 d3 G W h h' hG)
  unfold fileV at HEq1 ⊢
  clear H1 HEq hF1
  generalize fileCells (oParse bs) A1 c1 A2 c2 A3 c3 = xs at *
  have hba := below1 w1 (.cells xs.toArray 32)
  have hza : (w1.alloc (.cells xs.toArray 32)).heap.size = w1.heap.size + 1 := by simp
  have hra := range_new w1 xs 32
  have hbwa := hb1.trans (hba.mono hz1)
  have HFa := veil (HF1.out.below hba (Nat.le_refl _))
  have H2a := veil (H2.out _ (Hs.out.below hbwa (Nat.le_refl _)) (by omega))
  clear H2 hb1 HF1
  go_wp2_with (first
    | (refine wpList_store_new w1 rfl 32 (.tmp 3) (.tmp 10) rfl noCells.toArray xs rfl rfl (info_file Hl1.out) (by rw [Hl1.out]; simp [noCells_length]) Ho1.out ?_)
    | fail)
  refine H2a.out.mono ?_
  rintro e w2 ⟨B1, d1, B2, d2, B3, d3, rfl, hF2, hb2, _⟩
  have hz2 := hb2.size
  rw [hza] at hz2
  rw [← HE.out]
  have Hl2 := veil (fileCells_length hF2.form B1 d1 B2 d2 B3 d3)
  have Ho2 := veil (fileCells_one (f := oParse bs) (A := B1) (c := d1) (A2 := B2) (c2 := d2) (A3 := B3) (c3 := d3))
  have HEq2 := veil (fun G W h h' hG => HEq1.out B1 d1 B2 d2 B3 d3 G W h h' hG)
  have HF2 := veil hF2
  unfold fileV at HEq2 ⊢
  clear HEq1 hF2 H2a
  generalize fileCells (oParse bs) B1 d1 B2 d2 B3 d3 = ys at *
  have hbc := below1 w2 (.cells ys.toArray 32)
  have hzc : (w2.alloc (.cells ys.toArray 32)).heap.size = w2.heap.size + 1 := by simp
  have hrc := range_new w2 ys 32
  have hra2 := range_below (range_below hra hb2 (by rw [hza]; omega)) hbc (by omega)
  have hbwc := (hbwa.trans (hb2.mono (by omega))).trans (hbc.mono (by omega))
  have HQ := veil (HEq2.out w2.heap.size (w2.alloc (.cells ys.toArray 32)) (((HFa.out.below hb2 (by omega)).below hbc (by omega)).up (by omega)) (HF2.out.below hbc (Nat.le_refl _)) (by rw [hzc]; omega))
  clear HEq2 hb2 hbc hra hba hbwa HFa HF2
  go_wp2_with (first
    | (refine wpList_store_new w2 rfl 32 (.tmp 5) (.tmp 15) rfl noCells.toArray ys rfl rfl (info_file Hl2.out) (by rw [Hl2.out]; simp [noCells_length]) Ho2.out ?_)
    | (refine wpList_load_mid rfl 32 (.tmp 3) rfl w1.heap.size 0 rfl xs _ hra2 Try.underlying32 rfl (info_file Hl1.out) ?_)
    | (refine wpList_load_mid rfl 32 (.tmp 5) rfl w2.heap.size 0 rfl ys _ hrc Try.underlying32 rfl (info_file Hl2.out) ?_)
    | fail)
  refine HQ.out.mono ?_
  rintro e w3 ⟨rfl, hb3⟩
  have hbw3 := hbwc.trans (hb3.mono (by omega))
  have hz3 := hb3.size
  clear HQ hra2 hrc hb3
  go_wp2_with fail
  refine (HN.out _).mono ?_
  rintro e w4 ⟨rfl, hb4⟩
  have hf := hbw3.trans (hb4.mono (by omega))
  go_wp2
  go_ret
  exact ⟨rfl, hf⟩
end Go.Proofs.Ytmdjhbkpekepgaa
