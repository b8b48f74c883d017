/- Texts shared by the claims of this seat, in one. -/
import Derived.Test.YtbboakdfnjjddaaBd6
import Derived.Test.YtbboakdfnjjddaaBd9
import Derived.Test.YtbboakdfnjjddaaBd1
import Derived.Test.YtbboakdfnjjddaaBd7
import Derived.Test.YtbboakdfnjjddaaBd2
import Derived.Test.YtbboakdfnjjddaaRows
import Derived.Test.YtbboakdfnjjddaaChecked
import Derived.Laws.MakeOwn
import Derived.OpenShut
import Derived.Test.YtbboakdfnjjddaaBd4
import Derived.Test.YtbboakdfnjjddaaBd3
import Derived.StillTailTactics
import Derived.Deep.Cut
/- The reference's parts where every is 0: its contract; and keep.fitting over the closed block. -/
namespace Go.Proofs.Ytbboakdfnjjddaa
open Go.RowKit
set_option linter.unusedVariables false
set_option linter.unusedSimpArgs false
set_option maxRecDepth 100000

theorem sixteen {cs : List Int} (h : cs.length = 16) : ∃ a0 a1 a2 a3 a4 a5 a6 a7 a8 a9 a10 a11 a12 a13 a14 a15 : Int, cs = [a0, a1, a2, a3, a4, a5, a6, a7, a8, a9, a10, a11, a12, a13, a14, a15] := by
  match cs, h with
  | [a0, a1, a2, a3, a4, a5, a6, a7, a8, a9, a10, a11, a12, a13, a14, a15], _ => exact ⟨_, _, _, _, _, _, _, _, _, _, _, _, _, _, _, _, rfl⟩
theorem tab_lit (a0 a1 a2 a3 a4 a5 a6 a7 a8 a9 a10 a11 a12 a13 a14 a15 : Int) (A : Option Addr) (n c : Nat) : tabV [a0, a1, a2, a3, a4, a5, a6, a7, a8, a9, a10, a11, a12, a13, a14, a15] A n c = .agg #[.int .i64 a0, .int .i64 a1, .int .i64 a2, .int .i64 a3, .int .i64 a4, .int .i64 a5, .int .i64 a6, .int .i64 a7, .int .i64 a8, .int .i64 a9, .int .i64 a10, .int .i64 a11, .int .i64 a12, .int .i64 a13, .int .i64 a14, .int .i64 a15, .slice A n c] := rfl
theorem lit_one (a0 a1 a2 a3 a4 a5 a6 a7 a8 a9 a10 a11 a12 a13 a14 a15 : Int) (A : Option Addr) (n c : Nat) : ∀ u ∈ [Value.int .i64 a0, Value.int .i64 a1, Value.int .i64 a2, Value.int .i64 a3, Value.int .i64 a4, Value.int .i64 a5, Value.int .i64 a6, Value.int .i64 a7, Value.int .i64 a8, Value.int .i64 a9, Value.int .i64 a10, Value.int .i64 a11, Value.int .i64 a12, Value.int .i64 a13, Value.int .i64 a14, Value.int .i64 a15, Value.slice A n c], u.oneCell' = true := by
  intro u hu
  simp only [List.mem_cons, List.not_mem_nil, or_false] at hu
  rcases hu with rfl | rfl | rfl | rfl | rfl | rfl | rfl | rfl | rfl | rfl | rfl | rfl | rfl | rfl | rfl | rfl | rfl <;> rfl
theorem lit_one2 (a0 a1 a2 a3 a4 a5 a6 a7 a8 a9 a10 a11 a12 a13 a14 a15 b0 b1 b2 b3 b4 b5 b6 b7 b8 b9 b10 b11 b12 b13 b14 b15 : Int) (A : Option Addr) (n c : Nat) (A2 : Option Addr) (n2 c2 : Nat) : ∀ u ∈ [Value.int .i64 a0, Value.int .i64 a1, Value.int .i64 a2, Value.int .i64 a3, Value.int .i64 a4, Value.int .i64 a5, Value.int .i64 a6, Value.int .i64 a7, Value.int .i64 a8, Value.int .i64 a9, Value.int .i64 a10, Value.int .i64 a11, Value.int .i64 a12, Value.int .i64 a13, Value.int .i64 a14, Value.int .i64 a15, Value.slice A n c, Value.int .i64 b0, Value.int .i64 b1, Value.int .i64 b2, Value.int .i64 b3, Value.int .i64 b4, Value.int .i64 b5, Value.int .i64 b6, Value.int .i64 b7, Value.int .i64 b8, Value.int .i64 b9, Value.int .i64 b10, Value.int .i64 b11, Value.int .i64 b12, Value.int .i64 b13, Value.int .i64 b14, Value.int .i64 b15, Value.slice A2 n2 c2], u.oneCell' = true := by
  intro u hu
  simp only [List.mem_cons, List.not_mem_nil, or_false] at hu
  rcases hu with rfl | rfl | rfl | rfl | rfl | rfl | rfl | rfl | rfl | rfl | rfl | rfl | rfl | rfl | rfl | rfl | rfl | rfl | rfl | rfl | rfl | rfl | rfl | rfl | rfl | rfl | rfl | rfl | rfl | rfl | rfl | rfl | rfl | rfl <;> rfl
theorem parts0_any (n : Nat) (w : World) : Calls Try.prog 92 #[.int .i64 (n : Int), .int .i64 0] w fun e w' => ∃ v, e = .returned v ∧ Owns w.heap.size [intRow 3 .i64 v ([n].map Int.ofNat)] w' ∧ Below w.heap.size w w' := by
  have ho : Owns w.heap.size [intRow 3 .i64 (.slice (some ⟨w.heap.size, 0, none⟩) 1 1) ([n].map Int.ofNat)] (w.alloc (.cells #[.int .i64 (n : Int)] 3)) :=
    ⟨by simp, fun r hr => by
      rw [List.mem_singleton.1 hr]
      exact ⟨rfl, .inr ⟨w.heap.size, 1, _, rfl, Nat.le_refl _, heap_alloc_new w _, Nat.le_refl _, by unfold maxLen; decide, rfl, rfl⟩⟩, List.pairwise_singleton _ _⟩
  have Ho := veil ho
  clear ho
  go_enter Try.func92, Try.ntmps92
  go_wp2
  go_ret
  exact ⟨_, rfl, Ho.out, below1 w _⟩
set_option maxRecDepth 100000 in
set_option maxHeartbeats 4000000 in
/-- fitting tables for a list of blocks, in one segment. -/
theorem fitting0_any (L : List (List Int)) (A : Option Addr) (c G : Nat) (w : World) (hl : ∀ r ∈ L, r.length = 64) (hcap : L.length ≤ c) (h400 : L.length ≤ 400) (hin : ∀ r ∈ L, inB (-2047) 2047 r = true) (hs : Seen w G A (rowsC L)) (hG : G ≤ w.heap.size) :
    Calls Try.prog 51 #[.slice A L.length c, .int .i64 0] w fun e w' => ∃ cs syms A1 c1 cs2 syms2 A2 c2,
      e = .returned (.tuple #[tabsV cs A1 syms.length c1 cs2 A2 syms2.length c2, .bool (decide (errB (fcL true [L.length] L 1) = 0 ∧ errB (fcL false [L.length] L 1) = 0))]) ∧
        MadeT (fcL true [L.length] L 1) cs syms ∧ MadeT (fcL false [L.length] L 1) cs2 syms2 ∧ Seen w' w'.heap.size A1 (ints .i64 syms) ∧ Seen w' w'.heap.size A2 (ints .i64 syms2) ∧ Below w.heap.size w w' := by
  have HF := veil (fun W h hG => frCounts_any [L.length] 0 L A c G W hl hcap (by unfold maxLen; omega) hin h hG (fun n hn => by rw [List.mem_singleton.1 hn]; exact h400) (fun k => by
    cases k with
    | zero => simp
    | succ k => simp) (by simp) (fun W => parts0_any L.length W))
  have hl1 := fcL_length true [L.length] L 1
  have hl2 := fcL_length false [L.length] L 1
  rw [show [L.length].length = 1 from rfl] at HF
  obtain ⟨X, hX⟩ : ∃ X, X = fcL true [L.length] L 1 := ⟨_, rfl⟩
  obtain ⟨Y, hY⟩ : ∃ Y, Y = fcL false [L.length] L 1 := ⟨_, rfl⟩
  rw [← hX] at HF hl1 ⊢
  rw [← hY] at HF hl2 ⊢
  clear hX hY
  obtain ⟨bb, hbb⟩ : ∃ b, b = decide (errB X = 0 ∧ errB Y = 0) := ⟨_, rfl⟩
  rw [← hbb]
  have Hbb := veil hbb
  clear hbb
  have Hl1 := veil hl1; have Hl2 := veil hl2
  have hb0 := below1 w (.cells #[.int .i64 0, .int .i64 0, .int .i64 0, .int .i64 0, .int .i64 0, .int .i64 0, .int .i64 0, .int .i64 0, .int .i64 0, .int .i64 0, .int .i64 0, .int .i64 0, .int .i64 0, .int .i64 0, .int .i64 0, .int .i64 0, .slice none 0 0, .int .i64 0, .int .i64 0, .int .i64 0, .int .i64 0, .int .i64 0, .int .i64 0, .int .i64 0, .int .i64 0, .int .i64 0, .int .i64 0, .int .i64 0, .int .i64 0, .int .i64 0, .int .i64 0, .int .i64 0, .int .i64 0, .slice none 0 0] 36)
  have hB0 := Blk.new w [.int .i64 0, .int .i64 0, .int .i64 0, .int .i64 0, .int .i64 0, .int .i64 0, .int .i64 0, .int .i64 0, .int .i64 0, .int .i64 0, .int .i64 0, .int .i64 0, .int .i64 0, .int .i64 0, .int .i64 0, .int .i64 0, .slice none 0 0, .int .i64 0, .int .i64 0, .int .i64 0, .int .i64 0, .int .i64 0, .int .i64 0, .int .i64 0, .int .i64 0, .int .i64 0, .int .i64 0, .int .i64 0, .int .i64 0, .int .i64 0, .int .i64 0, .int .i64 0, .int .i64 0, .slice none 0 0] 36
  have hz0 : (w.alloc (.cells #[.int .i64 0, .int .i64 0, .int .i64 0, .int .i64 0, .int .i64 0, .int .i64 0, .int .i64 0, .int .i64 0, .int .i64 0, .int .i64 0, .int .i64 0, .int .i64 0, .int .i64 0, .int .i64 0, .int .i64 0, .int .i64 0, .slice none 0 0, .int .i64 0, .int .i64 0, .int .i64 0, .int .i64 0, .int .i64 0, .int .i64 0, .int .i64 0, .int .i64 0, .int .i64 0, .int .i64 0, .int .i64 0, .int .i64 0, .int .i64 0, .int .i64 0, .int .i64 0, .int .i64 0, .slice none 0 0] 36)).heap.size = w.heap.size + 1 := by simp
  have hF := HF.out _ (hs.below hb0 hG) (by rw [hz0]; omega)
  have HF2 := veil hF
  have Hs := veil hs; have HB0 := veil hB0; have Hb0 := veil hb0
  clear hF HF hl1 hl2 hs hB0 hb0
  go_enter Try.func51, Try.ntmps51
  go_wp2_with fail
  refine HF2.out.mono ?_
  rintro e w1 ⟨v1, v2, rfl, HO1, hb1⟩
  obtain ⟨A1, c1, A2, c2, rfl, rfl, s1, s2⟩ := cnt_formF HO1
  have hz1 := hb1.size
  rw [hz0] at hz1
  have hB1 := HB0.out.below hb1 (by rw [hz0]; omega)
  have hbw1 := Hb0.out.trans (hb1.mono (by rw [hz0]; omega))
  have HM1 := veil (make_any A1 c1 w1.heap.size X w1 s1 (Nat.le_refl _) (by rw [Hl1.out]; unfold maxLen; decide))
  rw [Hl1.out] at HM1 ⊢
  rw [Hl2.out]
  have HB1 := veil hB1; have Hbw1 := veil hbw1; have S2 := veil s2
  clear hB1 hbw1 s1 s2 hb1 HO1 HF2 HB0 Hb0
  go_wp2_with fail
  refine HM1.out.mono ?_
  rintro e w2 ⟨cs, syms, A3, c3, rfl, hM, HO, hb2⟩
  have hs3 := HO
  have hlen16 := hM.len
  have HMt := veil hM
  obtain ⟨a0, a1, a2, a3, a4, a5, a6, a7, a8, a9, a10, a11, a12, a13, a14, a15, rfl⟩ := sixteen hlen16
  have hz2 := hb2.size
  have HB2 := veil (HB1.out.below hb2 (by omega)); have Hbw2 := veil (Hbw1.out.trans (hb2.mono (by omega))); have S2b := veil (S2.out.below hb2 (Nat.le_refl _)); have S3 := veil hs3
  clear HO hM hs3 hlen16 hb2 HB1 Hbw1 S2 HM1
  rw [tab_lit]
  have hb3 := below1 w2 (.cells #[.int .i64 a0, .int .i64 a1, .int .i64 a2, .int .i64 a3, .int .i64 a4, .int .i64 a5, .int .i64 a6, .int .i64 a7, .int .i64 a8, .int .i64 a9, .int .i64 a10, .int .i64 a11, .int .i64 a12, .int .i64 a13, .int .i64 a14, .int .i64 a15, .slice A3 syms.length c3] 34)
  have hB3 := Blk.new w2 [.int .i64 a0, .int .i64 a1, .int .i64 a2, .int .i64 a3, .int .i64 a4, .int .i64 a5, .int .i64 a6, .int .i64 a7, .int .i64 a8, .int .i64 a9, .int .i64 a10, .int .i64 a11, .int .i64 a12, .int .i64 a13, .int .i64 a14, .int .i64 a15, .slice A3 syms.length c3] 34
  have hz3 : (w2.alloc (.cells #[.int .i64 a0, .int .i64 a1, .int .i64 a2, .int .i64 a3, .int .i64 a4, .int .i64 a5, .int .i64 a6, .int .i64 a7, .int .i64 a8, .int .i64 a9, .int .i64 a10, .int .i64 a11, .int .i64 a12, .int .i64 a13, .int .i64 a14, .int .i64 a15, .slice A3 syms.length c3] 34)).heap.size = w2.heap.size + 1 := by simp
  have hone := lit_one a0 a1 a2 a3 a4 a5 a6 a7 a8 a9 a10 a11 a12 a13 a14 a15 A3 syms.length c3
  have HM2 := veil (make_any A2 c2 w2.heap.size Y _ ((S2b.out.up hz2).below hb3 (Nat.le_refl _)) (by rw [hz3]; omega) (by rw [Hl2.out]; unfold maxLen; decide))
  rw [Hl2.out] at HM2
  have HB3 := veil (HB2.out.below hb3 (by omega)); have HC3 := veil hB3; have Hbw3 := veil (Hbw2.out.trans (hb3.mono (by omega))); have S3b := veil (S3.out.below hb3)
  clear hb3 hB3 HB2 Hbw2 S3 S2b
  go_wp2_with (first
    | (refine wpList_store_new w2 rfl 34 (.tmp 8) (.tmp 21) rfl _ [.int .i64 a0, .int .i64 a1, .int .i64 a2, .int .i64 a3, .int .i64 a4, .int .i64 a5, .int .i64 a6, .int .i64 a7, .int .i64 a8, .int .i64 a9, .int .i64 a10, .int .i64 a11, .int .i64 a12, .int .i64 a13, .int .i64 a14, .int .i64 a15, .slice A3 syms.length c3] rfl rfl info_tab rfl hone ?_)
    | fail)
  refine HM2.out.mono ?_
  rintro e w4 ⟨cs2, syms2, A4, c4, rfl, hM4, HO4, hb4⟩
  have hs4 := HO4
  have hlen16 := hM4.len
  have HMt4 := veil hM4
  obtain ⟨b0, b1, b2, b3, b4, b5, b6, b7, b8, b9, b10, b11, b12, b13, b14, b15, rfl⟩ := sixteen hlen16
  have hz4 := hb4.size
  have hz3' := hz3
  have hb4' := hb4
  rw [hz3] at hz4 hb4
  have HB4 := veil (HB3.out.below hb4 (by omega)); have HC4 := veil (HC3.out.below hb4 (by omega)); have Hbw4 := veil (Hbw3.out.trans (hb4.mono (by omega))); have S3c := veil (S3b.out.below hb4'); have S4 := veil hs4
  clear HO4 hM4 hs4 hlen16 hb4 hb4' HB3 HC3 Hbw3 S3b HM2 hone hz3
  rw [tab_lit]
  have hb5 := below1 w4 (.cells #[.int .i64 b0, .int .i64 b1, .int .i64 b2, .int .i64 b3, .int .i64 b4, .int .i64 b5, .int .i64 b6, .int .i64 b7, .int .i64 b8, .int .i64 b9, .int .i64 b10, .int .i64 b11, .int .i64 b12, .int .i64 b13, .int .i64 b14, .int .i64 b15, .slice A4 syms2.length c4] 34)
  have hD5 := Blk.new w4 [.int .i64 b0, .int .i64 b1, .int .i64 b2, .int .i64 b3, .int .i64 b4, .int .i64 b5, .int .i64 b6, .int .i64 b7, .int .i64 b8, .int .i64 b9, .int .i64 b10, .int .i64 b11, .int .i64 b12, .int .i64 b13, .int .i64 b14, .int .i64 b15, .slice A4 syms2.length c4] 34
  have hz5 : (w4.alloc (.cells #[.int .i64 b0, .int .i64 b1, .int .i64 b2, .int .i64 b3, .int .i64 b4, .int .i64 b5, .int .i64 b6, .int .i64 b7, .int .i64 b8, .int .i64 b9, .int .i64 b10, .int .i64 b11, .int .i64 b12, .int .i64 b13, .int .i64 b14, .int .i64 b15, .slice A4 syms2.length c4] 34)).heap.size = w4.heap.size + 1 := by simp
  have hone := lit_one b0 b1 b2 b3 b4 b5 b6 b7 b8 b9 b10 b11 b12 b13 b14 b15 A4 syms2.length c4
  have hB5 := HB4.out.below hb5 (by omega)
  have hC5 := HC4.out.below hb5 (by omega)
  have hbw5 := Hbw4.out.trans (hb5.mono (by omega))
  have S3d := veil (S3c.out.below hb5); have S4d := veil (S4.out.below hb5)
  have hone2 := lit_one2 a0 a1 a2 a3 a4 a5 a6 a7 a8 a9 a10 a11 a12 a13 a14 a15 b0 b1 b2 b3 b4 b5 b6 b7 b8 b9 b10 b11 b12 b13 b14 b15 A3 syms.length c3 A4 syms2.length c4
  have hi34 : (Try.prog.info? 36).map (·.size) = some 34 := by kernel_rfl
  have hrC := hC5.range
  have hrD := hD5.range
  clear HB4 HC4 Hbw4 S3c S4 hb5
  go_wp2_with (first
    | (refine wpList_store_new w4 rfl 34 (.tmp 10) (.tmp 26) rfl _ [.int .i64 b0, .int .i64 b1, .int .i64 b2, .int .i64 b3, .int .i64 b4, .int .i64 b5, .int .i64 b6, .int .i64 b7, .int .i64 b8, .int .i64 b9, .int .i64 b10, .int .i64 b11, .int .i64 b12, .int .i64 b13, .int .i64 b14, .int .i64 b15, .slice A4 syms2.length c4] rfl rfl info_tab rfl hone ?_)
    | (refine wpList_load_mid rfl 34 (.tmp 8) rfl w2.heap.size 0 rfl [.int .i64 a0, .int .i64 a1, .int .i64 a2, .int .i64 a3, .int .i64 a4, .int .i64 a5, .int .i64 a6, .int .i64 a7, .int .i64 a8, .int .i64 a9, .int .i64 a10, .int .i64 a11, .int .i64 a12, .int .i64 a13, .int .i64 a14, .int .i64 a15, .slice A3 syms.length c3] _ hrC Try.underlying34 rfl info_tab ?_)
    | (refine wpList_load_mid rfl 34 (.tmp 10) rfl w4.heap.size 0 rfl [.int .i64 b0, .int .i64 b1, .int .i64 b2, .int .i64 b3, .int .i64 b4, .int .i64 b5, .int .i64 b6, .int .i64 b7, .int .i64 b8, .int .i64 b9, .int .i64 b10, .int .i64 b11, .int .i64 b12, .int .i64 b13, .int .i64 b14, .int .i64 b15, .slice A4 syms2.length c4] _ hrD Try.underlying34 rfl info_tab ?_)
    | (refine wpList_store_blk _ rfl 36 (.tmp 4) (.tmp 30) rfl w.heap.size [.int .i64 0, .int .i64 0, .int .i64 0, .int .i64 0, .int .i64 0, .int .i64 0, .int .i64 0, .int .i64 0, .int .i64 0, .int .i64 0, .int .i64 0, .int .i64 0, .int .i64 0, .int .i64 0, .int .i64 0, .int .i64 0, .slice none 0 0, .int .i64 0, .int .i64 0, .int .i64 0, .int .i64 0, .int .i64 0, .int .i64 0, .int .i64 0, .int .i64 0, .int .i64 0, .int .i64 0, .int .i64 0, .int .i64 0, .int .i64 0, .int .i64 0, .int .i64 0, .int .i64 0, .slice none 0 0] [.int .i64 a0, .int .i64 a1, .int .i64 a2, .int .i64 a3, .int .i64 a4, .int .i64 a5, .int .i64 a6, .int .i64 a7, .int .i64 a8, .int .i64 a9, .int .i64 a10, .int .i64 a11, .int .i64 a12, .int .i64 a13, .int .i64 a14, .int .i64 a15, .slice A3 syms.length c3, .int .i64 b0, .int .i64 b1, .int .i64 b2, .int .i64 b3, .int .i64 b4, .int .i64 b5, .int .i64 b6, .int .i64 b7, .int .i64 b8, .int .i64 b9, .int .i64 b10, .int .i64 b11, .int .i64 b12, .int .i64 b13, .int .i64 b14, .int .i64 b15, .slice A4 syms2.length c4] 36 hB5 rfl rfl hi34 rfl hone2 ?_; intro w6 hB6 hg6)
    | fail)
  all_goals
    have hw6 := hg6.size
    have t3 := S3d.out.kept hg6 (by omega)
    have t4 := S4d.out.kept hg6 (by rw [hz3']; omega)
    have hB7 : Blk w6 w.heap.size (tabsCells [a0, a1, a2, a3, a4, a5, a6, a7, a8, a9, a10, a11, a12, a13, a14, a15] A3 syms.length c3 [b0, b1, b2, b3, b4, b5, b6, b7, b8, b9, b10, b11, b12, b13, b14, b15] A4 syms2.length c4) 36 := hB6
    refine bodyPost_ret (v := .tuple #[tabsV [a0, a1, a2, a3, a4, a5, a6, a7, a8, a9, a10, a11, a12, a13, a14, a15] A3 syms.length c3 [b0, b1, b2, b3, b4, b5, b6, b7, b8, b9, b10, b11, b12, b13, b14, b15] A4 syms2.length c4, .bool bb]) (results_row_tmp rfl _ _ w.heap.size 36 (tabsCells [a0, a1, a2, a3, a4, a5, a6, a7, a8, a9, a10, a11, a12, a13, a14, a15] A3 syms.length c3 [b0, b1, b2, b3, b4, b5, b6, b7, b8, b9, b10, b11, b12, b13, b14, b15] A4 syms2.length c4).toArray (0, 0) _ _ rfl (by rename_i h0; show Value.bool _ = Value.bool bb; rw [Hbb.out]; first | (simp [h0]; done) | (simp [h0]; rfl)) hB7 Try.underlying36 rfl hi34) rfl ⟨[a0, a1, a2, a3, a4, a5, a6, a7, a8, a9, a10, a11, a12, a13, a14, a15], syms, A3, c3, [b0, b1, b2, b3, b4, b5, b6, b7, b8, b9, b10, b11, b12, b13, b14, b15], syms2, A4, ⟨c4, rfl⟩, HMt.out, HMt4.out, MadeT.seen (zs := X) (cs := []) t3, MadeT.seen (zs := Y) (cs := []) t4, hbw5.grown hg6 hbw5.size (fun j hj => by injection hj with hj; omega)⟩
end Go.Proofs.Ytbboakdfnjjddaa

/- Appends onto rows of the call's own: which block the new slice lies in. No program is named here. -/
namespace Go.Proofs.Ytbboakdfnjjddaa
open Go.RowKit
set_option linter.unusedVariables false
set_option linter.unusedSimpArgs false
set_option maxRecDepth 100000

/-- append of what is seen onto the first of the rows. -/
theorem run_ownV2 {P : Program} (w : World) (B : Nat) (t ty e : TypeId) (size bytes : Nat) (he : ElemOf P t e size bytes)
    (v : Value) (n : Nat) (xs : List Value) (rs : List Row) (HO : Owns B (⟨e, size, v, n, xs⟩ :: rs) w) (G : Nat) (A : Option Addr) (m c : Nat) (news : List Value) (hsee : Seen w G A news) (hl : news.length = m * size) (h1 : ∀ u ∈ news, u.oneCell' = true)
    (h63 : n + m ≤ maxLen) (hbytes : (n + m) * bytes ≤ 140737488355328) :
    ∃ v' w', (Builtin.append_ #[t, t] ty #[v, .slice A m c]).run P w = .ok v' w' ∧ Owns B (⟨e, size, v', n + m, xs ++ news⟩ :: rs) w' ∧ w.grownBy w' v.ownBlock ∧ Below B w w' ∧ (v'.ownBlock = v.ownBlock ∨ v'.ownBlock = some w.heap.size) := by
  have hown := HO.head
  have hB := HO.base
  have hap := (List.pairwise_cons.1 HO.apart).1
  obtain ⟨ht, hp, i, z, hi, hz0, hz1, hz2, hzs⟩ := he
  have fin : ∀ v' w', w'.ownsRow B e size v' (n + m) (xs ++ news) → w.grownBy w' v.ownBlock → (v'.ownBlock = v.ownBlock ∨ v'.ownBlock = some w.heap.size) → Owns B (⟨e, size, v', n + m, xs ++ news⟩ :: rs) w' ∧ w.grownBy w' v.ownBlock ∧ Below B w w' ∧ (v'.ownBlock = v.ownBlock ∨ v'.ownBlock = some w.heap.size) := by
    intro v' w' h2 h3 h4
    refine ⟨⟨Nat.le_trans hB h3.size, fun x hx => ?_, List.pairwise_cons.2 ⟨fun s hs g hg => ?_, HO.tail.apart⟩⟩, h3, (Below.refl _ _).grown h3 hB fun k hk => (hown.lt k hk).1, h4⟩
    · rcases List.mem_cons.1 hx with rfl | hx
      · exact h2
      · refine (HO.tail.each x hx).kept h3 ?_
        cases hv : x.v.ownBlock with
        | none => exact .inl rfl
        | some g => exact .inr fun e => hap x hx g e.symm hv
    · simp only at hg
      rcases h4 with h4 | h4
      · exact hap s hs g (h4.symm.trans hg)
      · rw [h4] at hg
        injection hg with hg
        intro hsg
        have := ((HO.tail.each s hs).lt g hsg).2
        omega
  rcases A with _ | ad
  · have hnews : news = [] := by
      rcases hsee with h | ⟨g, o, h, _⟩
      · exact h
      · cases h
    subst hnews
    have hm : m = 0 := by
      rcases Nat.eq_zero_or_pos m with h | h
      · exact h
      · have : 0 < m * size := Nat.mul_pos h hp
        simp at hl; omega
    subst hm
    refine ⟨v, w, ?_, fin v w (by simpa using hown) (World.grownBy.refl w _) (.inl rfl)⟩
    rcases hown.2 with ⟨h5, h6⟩ | ⟨g, cap, cur, h5, _, _, hnc, _⟩
    · simp only at h5 h6
      subst h5 h6
      simp [Builtin.append_, run_underlying ht, sizeOf, typeInfo, hi, Builtin.lenOf, Builtin.firstCells]
    · simp only at h5 hnc
      subst h5
      simp [Builtin.append_, run_underlying ht, sizeOf, typeInfo, hi, Builtin.lenOf, Builtin.firstCells, hnc, storeCells]
  · have hc : ∀ j u, news[j]? = some u → w.cell? (ad.add j) = some u := by
      rcases hsee with h | ⟨g, o, h, _, hc⟩
      · subst h; intro j u hu; simp at hu
      · injection h with h
        subst h
        intro j u hu
        rw [addr_add]
        exact hc j u hu
    obtain ⟨v', w', hr, h2, h3, _, h4⟩ := run_append_own_at (P := P) w B t ty e i z size bytes ht hi hz0 hz1 hz2 hzs hp v n xs hown ad m c news hl hc h1 h63 hbytes hB
    exact ⟨v', w', hr, fin v' w' h2 h3 h4⟩
theorem wp_ownV2 {P : Program} {o : Oper} {a : Act} {K : Act → World → Prop} {Q : Exit → Act → World → Prop} (w : World) (s x : Operand) (t : TypeId)
    (ho : o.op = .call { callee := .builtin .append, args := #[s, x], argTypes := #[t, t] })
    (B : Nat) (e : TypeId) (size bytes : Nat) (he : ElemOf P t e size bytes)
    (v : Value) (n : Nat) (xs : List Value) (rs : List Row) (hs : a.eval s = v) (HO : Owns B (⟨e, size, v, n, xs⟩ :: rs) w) (G : Nat) (A : Option Addr) (m c : Nat) (news : List Value) (hx : a.eval x = .slice A m c) (hsee : Seen w G A news) (hl : news.length = m * size) (h1 : ∀ u ∈ news, u.oneCell' = true)
    (h63 : n + m ≤ maxLen) (hbytes : (n + m) * bytes ≤ 140737488355328)
    (h : ∀ v' w', Owns B (⟨e, size, v', n + m, xs ++ news⟩ :: rs) w' → w.grownBy w' v.ownBlock → Below B w w' → (v'.ownBlock = v.ownBlock ∨ v'.ownBlock = some w.heap.size) → K (a.put o.dst v') w') : o.wp P a w K Q := by
  obtain ⟨v', w', hr, h2, h3, h4, h5⟩ := run_ownV2 (P := P) w B t o.type e size bytes he v n xs rs HO G A m c news hsee hl h1 h63 hbytes
  unfold Oper.wp execOp
  simp only [ho, resolve, invoke, builtin, Sem.run_bind, Sem.run_pure, Result.andThen_ok, List.map_toArray, List.map_cons, List.map_nil, hs, hx, hr]
  exact h v' w' h2 h3 h4 h5
/-- In a region: append of what is seen. -/
theorem step_ownV2 {P : Program} {ops : Array Oper} {o : Oper} {a : Act} {K : Act → World → Prop} {Q : Exit → Act → World → Prop} {E : Prop} (w : World) (hgd : Region.wanted o (yielded ops a.tmps) = true) (s x : Operand) (t : TypeId)
    (ho : o.op = .call { callee := .builtin .append, args := #[s, x], argTypes := #[t, t] })
    (B : Nat) (e : TypeId) (size bytes : Nat) (he : ElemOf P t e size bytes)
    (v : Value) (n : Nat) (xs : List Value) (rs : List Row) (hs : a.eval s = v) (HO : Owns B (⟨e, size, v, n, xs⟩ :: rs) w) (G : Nat) (A : Option Addr) (m c : Nat) (news : List Value) (hx : a.eval x = .slice A m c) (hsee : Seen w G A news) (hl : news.length = m * size) (h1 : ∀ u ∈ news, u.oneCell' = true)
    (h63 : n + m ≤ maxLen) (hbytes : (n + m) * bytes ≤ 140737488355328)
    (h : ∀ v' w', Owns B (⟨e, size, v', n + m, xs ++ news⟩ :: rs) w' → w.grownBy w' v.ownBlock → Below B w w' → (v'.ownBlock = v.ownBlock ∨ v'.ownBlock = some w.heap.size) → K (a.put o.dst v') w') :
    if Region.wanted o (yielded ops a.tmps) = true then Oper.wp P o a w K Q else E := by
  rw [if_pos hgd]
  exact wp_ownV2 w s x t ho B e size bytes he v n xs rs hs HO G A m c news hx hsee hl h1 h63 hbytes h
end Go.Proofs.Ytbboakdfnjjddaa

/- Parts of a slice of bytes. -/
namespace Go.Proofs.Ytbboakdfnjjddaa
open Go.RowKit
set_option linter.unusedVariables false
set_option linter.unusedSimpArgs false
set_option maxRecDepth 100000

theorem run_cutB_to (A : Option Addr) (n c h : Nat) (h2 : h ≤ c) (u : World) : (Instr.sliceAt 37 (.slice A n c) none (some (.int .i64 (h : Int))) none).run Try.prog u = .ok (.slice A h c) u := by
  have he : Try.prog.underlying 37 = some (.slice (Try.prog.elem 37)) := by kernel_rfl
  have hz : (sizeOf (Try.prog.elem 37)).run Try.prog u = .ok 1 u := by kernel_rfl
  rw [run_sliceAt_slice _ _ _ _ _ _ he, run_slice_h _ _ _ _ _ he _ _ (by omega) (by omega), hz]
  simp [Result.andThen, sliced]
  intro _
  cases A with
  | none => rfl
  | some a => simp [Addr.add]
theorem unpack_drop (bs : List Int) (q : Nat) : unpack (bs.drop q) = (unpack bs).drop (8 * q) := by
  by_cases h : q ≤ bs.length
  · have e := unpack_append (bs.take q) (bs.drop q)
    rw [List.take_append_drop] at e
    rw [e, List.drop_left' (by rw [unpack_length, List.length_take]; omega)]
  · rw [List.drop_of_length_le (by omega), unpack_nil, List.drop_of_length_le (by rw [unpack_length]; omega)]
theorem unpack_take (bs : List Int) (q : Nat) : unpack (bs.take q) = (unpack bs).take (8 * q) := by
  by_cases h : q ≤ bs.length
  · have e := unpack_append (bs.take q) (bs.drop q)
    rw [List.take_append_drop] at e
    rw [e, List.take_left' (by rw [unpack_length, List.length_take]; omega)]
  · rw [List.take_of_length_le (by omega), List.take_of_length_le (by rw [unpack_length]; omega)]
end Go.Proofs.Ytbboakdfnjjddaa

/- Stuffing, its undoing, and the division at markers, as functions of lists. No program is named here. -/
namespace Go.Proofs.Ytbboakdfnjjddaa
set_option linter.unusedVariables false
set_option linter.unusedSimpArgs false
set_option maxRecDepth 100000

def stuff1 (x : Int) : List Int := if x = 255 then [255, 0] else [x]
def stuffB (bs : List Int) : List Int := bs.flatMap stuff1
theorem stuffB_cons (x : Int) (bs : List Int) : stuffB (x :: bs) = stuff1 x ++ stuffB bs := by simp [stuffB]
theorem stuffB_append (a b : List Int) : stuffB (a ++ b) = stuffB a ++ stuffB b := by simp [stuffB]
theorem stuffB_one (x : Int) : stuffB [x] = stuff1 x := by simp [stuffB]
theorem stuffB_length_le (bs : List Int) : (stuffB bs).length ≤ 2 * bs.length := by
  induction bs with
  | nil => simp [stuffB]
  | cons x bs ih =>
    rw [stuffB_cons, List.length_append, List.length_cons]
    have : (stuff1 x).length ≤ 2 := by unfold stuff1; split <;> simp
    omega
theorem stuffB_length (bs : List Int) : (stuffB bs).length = bs.length + bs.countP (· == 255) := by
  induction bs with
  | nil => simp [stuffB]
  | cons x bs ih =>
    rw [stuffB_cons, List.length_append, List.length_cons, ih, List.countP_cons]
    unfold stuff1
    by_cases h : x = 255
    · simp [h]; omega
    · simp [h]; omega

/-- What the undoing gives; none: a byte 255 that no byte 0 follows. -/
def plainR : List Int → Option (List Int)
  | [] => some []
  | [x] => if x = 255 then none else some [x]
  | x :: y :: r => if x = 255 then (if y = 0 then (plainR r).map (255 :: ·) else none) else (plainR (y :: r)).map (x :: ·)
theorem plainR_other {x : Int} (h : x ≠ 255) (r : List Int) : plainR (x :: r) = (plainR r).map (x :: ·) := by
  cases r with
  | nil => simp [plainR, h]
  | cons y r => simp [plainR, h]
theorem plainR_bad {y : Int} (h : y ≠ 0) (r : List Int) : plainR (255 :: y :: r) = none := by simp [plainR, h]
theorem plainR_end : plainR [255] = none := by simp [plainR]
theorem length_le_stuffB (p : List Int) : p.length ≤ (stuffB p).length := by rw [stuffB_length]; omega

/-- The division at markers; the second list: the piece so far. -/
def splitR : List Int → List Int → Option (List (List Int) × List Int)
  | [], cur => some ([cur], [])
  | [x], cur => if x = 255 then none else some ([cur ++ [x]], [])
  | x :: y :: r, cur =>
    if x = 255 then (if y = 255 then none else if y = 0 then splitR r (cur ++ [255, 0]) else (splitR r []).map fun q => (cur :: q.1, y :: q.2))
    else splitR (y :: r) (cur ++ [x])
theorem splitR_other {x : Int} (h : x ≠ 255) (r cur : List Int) : splitR (x :: r) cur = splitR r (cur ++ [x]) := by
  cases r with
  | nil => simp [splitR, h]
  | cons y r => simp [splitR, h]
theorem splitR_end (cur : List Int) : splitR [255] cur = none := by simp [splitR]
theorem splitR_two (r cur : List Int) : splitR (255 :: 255 :: r) cur = none := by simp [splitR]
/-- Where a division stands: what is done, and what is left. -/
structure SInv (bs : List Int) (k : Nat) (ps : List (List Int)) (ms cur : List Int) : Prop where
  eq : splitR bs [] = (splitR (bs.drop k) cur).map fun q => (ps ++ q.1, ms ++ q.2)
  few : ps.length = ms.length
  room : 2 * ps.length + cur.length ≤ k
theorem drop_one {xs : List Int} {k : Nat} {x : Int} (h : xs[k]? = some x) : xs.drop k = x :: xs.drop (k + 1) := by
  obtain ⟨hk, rfl⟩ := List.getElem?_eq_some_iff.1 h
  exact List.drop_eq_getElem_cons hk
section
variable {bs ms cur : List Int} {k : Nat} {ps : List (List Int)} {x y : Int}
theorem SInv.start (bs : List Int) : SInv bs 0 [] [] [] := ⟨by simp, rfl, by simp⟩
theorem SInv.other (h : SInv bs k ps ms cur) (hx : bs[k]? = some x) (hn : x ≠ 255) : SInv bs (k + 1) ps ms (cur ++ [x]) :=
  ⟨by rw [h.eq, drop_one hx, splitR_other hn], h.few, by have := h.room; simp; omega⟩
theorem SInv.two (h : SInv bs k ps ms cur) (hx : bs[k]? = some 255) (hy : bs[k + 1]? = some 255) : splitR bs [] = none := by rw [h.eq, drop_one hx, drop_one hy, splitR_two]; rfl
theorem SInv.last (h : SInv bs k ps ms cur) (hx : bs[k]? = some 255) (hl : k + 1 = bs.length) : splitR bs [] = none := by rw [h.eq, drop_one hx, hl, List.drop_length, splitR_end]; rfl
theorem SInv.done (h : SInv bs bs.length ps ms cur) : splitR bs [] = some (ps ++ [cur], ms) := by rw [h.eq, List.drop_length]; simp [splitR]
end
/-- Where an undoing stands. -/
structure PlInv (bs : List Int) (k : Nat) (acc : List Int) : Prop where
  eq : plainR bs = (plainR (bs.drop k)).map (acc ++ ·)
  room : acc.length ≤ k
section
variable {bs acc : List Int} {k : Nat} {x y : Int}
theorem PlInv.start (bs : List Int) : PlInv bs 0 [] := ⟨by simp, Nat.le_refl _⟩
theorem PlInv.other (h : PlInv bs k acc) (hx : bs[k]? = some x) (hn : x ≠ 255) : PlInv bs (k + 1) (acc ++ [x]) :=
  ⟨by rw [h.eq, drop_one hx, plainR_other hn, Option.map_map]; simp [Function.comp_def], by have := h.room; simp; omega⟩
theorem PlInv.bad (h : PlInv bs k acc) (hx : bs[k]? = some 255) (hy : bs[k + 1]? = some y) (hn : y ≠ 0) : plainR bs = none := by rw [h.eq, drop_one hx, drop_one hy, plainR_bad hn]; rfl
theorem PlInv.last (h : PlInv bs k acc) (hx : bs[k]? = some 255) (hl : k + 1 = bs.length) : plainR bs = none := by rw [h.eq, drop_one hx, hl, List.drop_length, plainR_end]; rfl
theorem PlInv.done (h : PlInv bs bs.length acc) : plainR bs = some acc := by rw [h.eq, List.drop_length]; simp [plainR]
end
end Go.Proofs.Ytbboakdfnjjddaa

/- stuff.Stuff and stuff.Plain: their contracts. -/
namespace Go.Proofs.Ytbboakdfnjjddaa
open Go.RowKit
set_option linter.unusedVariables false
set_option linter.unusedSimpArgs false
set_option maxRecDepth 100000

theorem elem_byte : ElemOf Try.prog 37 5 1 1 := .mk' (z := .int .u8 0) Try.underlying37 (by kernel_rfl) rfl (by omega)
theorem info_byteS : (Try.prog.info? 5).map (fun i => (i.zero, i.size, i.bytes)) = some (some (.int .u8 0), 1, 1) := by kernel_rfl
theorem run_make_bytes (n : Nat) (h : n ≤ 140737488355328) (u : World) : (Instr.makeSlice 37 (.int .i64 0) (.int .i64 (n : Int))).run Try.prog u =
    .ok (.slice (some ⟨u.heap.size, 0, none⟩) 0 n) (u.alloc (.cells (madeCells #[.int .u8 0] n) 5)) := by
  obtain ⟨i0, hi, hz0, hz1, hz2⟩ := info_parts info_byteS
  have h := run_make (P := Try.prog) u 37 5 i0 (.int .u8 0) Try.underlying37 hi hz0 .i64 .i64 0 n (by omega) (by omega) (by rw [hz2]; omega) (by omega)
  simpa [hz1, Value.cells] using h

abbrev byteRow (v : Value) (l : List Int) : Row := intRow 5 .u8 v l

theorem stuff_room {bs : List Int} {k : Nat} {x : Int} (h : bs[k]? = some x) : (stuffB (bs.take k)).length + (stuff1 x).length ≤ (stuffB bs).length := by
  have e : bs = bs.take k ++ [x] ++ bs.drop (k + 1) := by rw [← take_snoc h, List.take_append_drop]
  have h2 := congrArg List.length (congrArg stuffB e)
  rw [stuffB_append, stuffB_append, stuffB_one] at h2
  simp only [List.length_append] at h2
  omega
theorem stuff_snoc {bs : List Int} {k : Nat} {x : Int} (h : bs[k]? = some x) : stuffB (bs.take (k + 1)) = stuffB (bs.take k) ++ stuff1 x := by rw [take_snoc h, stuffB_append, stuffB_one]

set_option maxHeartbeats 1000000 in
theorem stuff_any (A : Option Addr) (c G : Nat) (bs : List Int) (w : World) (hb : Seen w G A (ints .u8 bs)) (hG : G ≤ w.heap.size) (hl : (stuffB bs).length ≤ 140737488355328) :
    Calls Try.prog 31 #[.slice A bs.length c] w fun e w' => ∃ v, e = .returned v ∧ Owns w.heap.size [byteRow v (stuffB bs)] w' ∧ Below w.heap.size w w' := by
  have hl0 : bs.length ≤ 140737488355328 := Nat.le_trans (length_le_stuffB bs) hl
  have hmk := run_make_bytes bs.length (by omega)
  go_enter Try.func31, Try.ntmps31
  go_wp2_with fail
  clear hmk
  go_loopg [3, 5, 11] bs.length (fun gk v x i wr => ∃ k : Nat, gk = bs.length - k ∧ k ≤ bs.length ∧ i = .int .i64 k ∧ Owns w.heap.size [byteRow v (stuffB (bs.take k))] wr ∧ Below w.heap.size w wr)
  case atStart => exact ⟨0, rfl, Nat.zero_le _, rfl, (Owns.start w).made _ _ _ _ (by unfold maxLen; omega) (by rw [size_madeCells, Nat.mul_one]), below1 _ _⟩
  case round =>
    obtain ⟨k, rfl, hk, rfl, HO, hbel⟩ := hrel
    have hB := hbel.size
    by_cases hlt : k < bs.length
    · obtain ⟨g, o, x, rfl, hg, hx, h1⟩ := hb.int hlt
      have hroom := stuff_room hx
      have hsn := stuff_snoc hx
      have Hsn := veil hsn; clear hsn hx
      rw [← hbel.cell (by simp; omega)] at h1
      generalize stuffB (bs.take k) = out at *
      by_cases h255 : x = 255
      · subst h255
        have hs1 : (stuff1 255).length = 2 := rfl
        rw [hs1] at hroom
        go_wp2_with (first
          | (at_builtin; go_loud (refine wpList_ownI _ rfl (.tmp 15) (.tmp 17) _ rfl w.heap.size 5 .u8 1 elem_byte u3 out [] rfl HO [255] rfl (by unfold maxLen; simp; omega) (by simp; omega) ?_); intro v1 w1 HO1 hb1 hz1)
          | (at_builtin; go_loud (refine wpList_ownI _ rfl (.tmp 21) (.tmp 22) _ rfl w.heap.size 5 .u8 1 elem_byte v1 (out ++ [255]) [] rfl HO1 [0] rfl (by unfold maxLen; simp; omega) (by simp; omega) ?_); intro v2 w2 HO2 hb2 hz2))
        go_roundg (bs.length - (k + 1))
        case rel => exact ⟨k + 1, rfl, by omega, by go_num, by rw [Hsn.out]; simpa [stuff1] using HO2, (hbel.trans hb1).trans hb2⟩
        case measure => omega
      · have hb0 : (x == 255) = false := by simpa using h255
        have hs1 : stuff1 x = [x] := by unfold stuff1; rw [if_neg h255]
        have Hs1 := veil hs1
        rw [hs1] at hroom
        simp at hroom
        clear hs1 h255
        go_wp2_with (at_builtin; go_loud (refine wpList_ownI _ rfl (.tmp 15) (.tmp 17) _ rfl w.heap.size 5 .u8 1 elem_byte u3 out [] rfl HO [x] rfl (by unfold maxLen; simp; omega) (by simp; omega) ?_); intro v1 w1 HO1 hb1 hz1)
        go_roundg (bs.length - (k + 1))
        case rel => exact ⟨k + 1, rfl, by omega, by go_num, by rw [Hsn.out, Hs1.out]; exact HO1, hbel.trans hb1⟩
        case measure => omega
    · obtain rfl : k = bs.length := by omega
      rw [List.take_length] at HO
      go_wp2
      go_ret
      exact ⟨_, rfl, HO, hbel⟩

end Go.Proofs.Ytbboakdfnjjddaa

/- seg's writer: its state in numbers and in memory. -/
namespace Go.Proofs.Ytbboakdfnjjddaa
open Go.RowKit
set_option linter.unusedVariables false
set_option linter.unusedSimpArgs false
set_option maxRecDepth 100000

abbrev fieldRow (v : Value) (l : List (Int × Int)) : Row := ⟨69, 2, v, l.length, pairCells l⟩
theorem fieldRow_append (v : Value) (l m : List (Int × Int)) : (⟨69, 2, v, l.length + m.length, pairCells l ++ pairCells m⟩ : Row) = fieldRow v (l ++ m) := by simp [fieldRow, pairCells]
/-- Block g is a writer: bytes that are done, fields that are not. -/
structure Wr (B g : Nat) (D : List Int) (P : List (Int × Int)) (vd vp : Value) (w : World) : Prop where
  blk : Blk w g [vd, vp, .int .i64 ((fieldBits P).length : Int)] 67
  own : Owns B [byteRow vd D, fieldRow vp P] w
  low : g < B
  byt : Bytes D
  ok : ∀ f ∈ P, okF f
  few : P.length ≤ 20000
/-- The blocks that it may write. -/
def wrF (g : Nat) (vd vp : Value) (q : Nat) : Prop := q = g ∨ vd.ownBlock = some q ∨ vp.ownBlock = some q
section
variable {B g : Nat} {D : List Int} {P : List (Int × Int)} {vd vp : Value} {w w' : World}
theorem Wr.below (h : Wr B g D P vd vp w) (hb : Below w.heap.size w w') : Wr B g D P vd vp w' := ⟨h.blk.below hb h.blk.lt, h.own.below hb, h.low, h.byt, h.ok, h.few⟩
theorem Wr.only {F : Nat → Prop} (h : Wr B g D P vd vp w) (hb : Only F w w') (hF : ∀ q, wrF g vd vp q → ¬ F q) : Wr B g D P vd vp w' :=
  ⟨hb.blk h.blk (hF g (.inl rfl)), h.own.only hb (fun r hr q hq => hF q (by
    rcases List.mem_cons.1 hr with rfl | hr
    · exact .inr (.inl hq)
    · rw [List.mem_singleton.1 hr] at hq; exact .inr (.inr hq))), h.low, h.byt, h.ok, h.few⟩
theorem Wr.foot (h : Wr B g D P vd vp w) {q : Nat} (hq : wrF g vd vp q) : q < w.heap.size ∧ g ≤ q := by
  rcases hq with rfl | hq | hq
  · exact ⟨h.blk.lt, Nat.le_refl _⟩
  · have := h.own.head.lt q hq; have := h.low; omega
  · have := h.own.tail.head.lt q hq; have := h.low; omega
end
theorem fieldBits_len_le (P : List (Int × Int)) (h : ∀ f ∈ P, okF f) : (fieldBits P).length ≤ 24 * P.length := fieldBits_le P h
theorem bits_take_done {P : List (Int × Int)} {out : List Int} {p : Nat} (h : unpack out = fieldBits P ++ List.replicate p true) (hp : p < 8) :
    8 * ((fieldBits P).length / 8) ≤ (fieldBits P).length ∧ (fieldBits P).length / 8 ≤ out.length ∧ unpack (out.take ((fieldBits P).length / 8)) = (fieldBits P).take (8 * ((fieldBits P).length / 8)) := by
  have hl := congrArg List.length h
  rw [unpack_length, List.length_append, List.length_replicate] at hl
  refine ⟨by omega, by omega, ?_⟩
  rw [unpack_take, h, List.take_append_of_le_length (by omega)]
/-- The bits behind the last full byte. -/
theorem bits_left {P : List (Int × Int)} {out : List Int} {p : Nat} (hby : Bytes out) (h : unpack out = fieldBits P ++ List.replicate p true) (hp : p < 8) (ho : 0 < (fieldBits P).length % 8) :
    ∃ x : Nat, out[(fieldBits P).length / 8]? = some (x : Int) ∧ x < 256 ∧ bitsN ((fieldBits P).length % 8) (x / 2 ^ (8 - (fieldBits P).length % 8)) = (fieldBits P).drop (8 * ((fieldBits P).length / 8)) ∧ x / 2 ^ (8 - (fieldBits P).length % 8) < 2 ^ ((fieldBits P).length % 8) := by
  have hl := congrArg List.length h
  rw [unpack_length, List.length_append, List.length_replicate] at hl
  obtain ⟨n, hn⟩ : ∃ n, n = (fieldBits P).length := ⟨_, rfl⟩
  rw [← hn] at hl ho ⊢
  obtain ⟨y, hy⟩ := some_at (xs := out) (j := n / 8) (by omega)
  have hyb := hby y (List.mem_of_getElem? hy)
  obtain ⟨x, rfl⟩ := Int.eq_ofNat_of_zero_le hyb.1
  have hx : x < 256 := by omega
  have e1 : bitsN 8 x = ((unpack out).drop (8 * (n / 8))).take 8 := by
    have e := unpack_drop out (n / 8)
    rw [← e]
    obtain ⟨hk, hk2⟩ := List.getElem?_eq_some_iff.1 hy
    rw [List.drop_eq_getElem_cons hk, hk2, unpack_cons, List.take_append_of_le_length (by rw [bitsN_length]; exact Nat.le_refl _), List.take_of_length_le (by rw [bitsN_length]; exact Nat.le_refl _), Int.toNat_natCast]
  have hd : 8 = n % 8 + (8 - n % 8) := by omega
  have e2 := bitsN_add (n % 8) (8 - n % 8) x
  rw [← hd, e1] at e2
  have e3 := congrArg (List.take (n % 8)) e2
  rw [List.take_left' (bitsN_length _ _), List.take_take, Nat.min_eq_left (by omega), h, List.drop_append_of_le_length (by omega), List.take_append_of_le_length (by rw [List.length_drop]; omega), List.take_of_length_le (by rw [List.length_drop]; omega)] at e3
  refine ⟨x, hy, hx, e3.symm, ?_⟩
  rw [Nat.div_lt_iff_lt_mul (Nat.two_pow_pos _), ← Nat.pow_add, ← hd]
  exact hx
end Go.Proofs.Ytbboakdfnjjddaa

/- seg's writer: add, its contract. -/
namespace Go.Proofs.Ytbboakdfnjjddaa
open Go.RowKit
set_option linter.unusedVariables false
set_option linter.unusedSimpArgs false
set_option maxRecDepth 100000

set_option maxRecDepth 100000 in
set_option maxHeartbeats 4000000 in
theorem add_small (B g : Nat) (D : List Int) (P : List (Int × Int)) (vd vp : Value) (f1 f2 : Int) (w : World) (h : Wr B g D P vd vp w) (hf : okF (f1, f2)) (hP : P.length < 20000) :
    Calls Try.prog 30 #[.pointer (some ⟨g, 0, none⟩), .agg #[.int .i64 f1, .int .i64 f2]] w fun e w' => e = .returned (.tuple #[]) ∧ ∃ vp', Wr B g D (P ++ [(f1, f2)]) vd vp' w' ∧ Only (wrF g vd vp) w w' ∧ ∀ q, wrF g vd vp' q → wrF g vd vp q ∨ w.heap.size ≤ q := by
  have hgl := h.blk.lt
  have hlow := h.low
  have hb0 := below1 w (.cells #[.int .i64 f1, .int .i64 f2] 69)
  have hW := h.below hb0
  have HB : Blk (w.alloc (.cells #[.int .i64 f1, .int .i64 f2] 69)) w.heap.size [.int .i64 f1, .int .i64 f2] 69 := Blk.new w [.int .i64 f1, .int .i64 f2] 69
  obtain ⟨Av, cv, hv, _, hcv, hmv⟩ := h.own.seen (List.mem_cons_of_mem _ (List.mem_cons_self ..))
  simp only [fieldRow] at hv hcv
  have hneb : ((P.length : Int) == 20000) = false := by simp; omega
  have hne : ¬ ((P.length : Int) = 20000) := by omega
  have hvn : ∀ q, vp.ownBlock = some q → q < w.heap.size := fun q hq => (h.own.tail.head.lt q hq).2
  subst hv
  have k1 := hW.blk.cell (i := 1) (v := .slice Av P.length cv) rfl
  have Hh := veil h
  have Hf := veil hf
  have HW := veil hW
  have HBv := veil HB
  have Hvn := veil hvn
  have Hb0 := veil hb0
  clear h hf hW HB hvn hb0
  go_enter Try.func30, Try.ntmps30
  go_upto_region 3 with fail
  obtain ⟨W0, hW0⟩ : ∃ W0, W0 = w.alloc (.cells #[.int .i64 f1, .int .i64 f2] 69) := ⟨_, rfl⟩
  rw [← hW0] at HW HBv Hb0 k1 ⊢
  have hz0 : W0.heap.size = w.heap.size + 1 := by rw [hW0]; simp
  have e0 := HBv.out.cell (i := 0) (v := .int .i64 f1) rfl
  have e1 := HBv.out.cell (i := 1) (v := .int .i64 f2) rfl
  clear hW0 e0 e1
  have hnf : some w.heap.size ≠ (Value.slice Av P.length cv).ownBlock := fun e => by have := Hvn.out _ e.symm; omega
  have Hnf := veil hnf
  have hP1 : P.length + 1 ≤ 1000000 := by omega
  clear k1 hnf
  refine wp_region_held_drew (S := fun w' => Blk w' w.heap.size [.int .i64 f1, .int .i64 f2] 69) (by kernel_rfl) (show Blk W0.drew w.heap.size _ _ from HBv.out) (fun hHeld0 => ?_)
  refine take_pure 0 12 (Value.pointer (some ⟨g, 0, none⟩)) _ rfl rfl (by kernel_rfl) (by kernel_rfl) (by kernel_rfl) (fun _ _ _ h => h) rfl (fun w' hS => by go_simp) hHeld0 rfl ?_
  refine take_pure 1 13 (Value.pointer (some ⟨g, 0, none⟩)) _ rfl rfl (by kernel_rfl) (by kernel_rfl) (by kernel_rfl) (fun _ _ _ h => h) rfl (fun w' hS => by go_simp) hHeld0 rfl ?_
  refine take_pure 2 14 (Value.pointer (some ⟨g, 0, none⟩)) _ rfl rfl (by kernel_rfl) (by kernel_rfl) (by kernel_rfl) (fun _ _ _ h => h) rfl (fun w' hS => by go_simp) hHeld0 rfl ?_
  refine take_pure 3 15 (Value.pointer (some ⟨g, 1, none⟩)) _ rfl rfl (by kernel_rfl) (by kernel_rfl) (by kernel_rfl) (fun _ _ _ h => h) rfl (fun w' hS => by go_simp) hHeld0 rfl ?_
  refine take_pure 5 17 (Value.agg #[.int .i64 f1, .int .i64 f2]) _ rfl rfl (by kernel_rfl) (by kernel_rfl) (by kernel_rfl) (fun _ _ _ h => h) rfl (fun w' hS => by have q0 := hS.cell (i := 0) rfl; have q1 := hS.cell (i := 1) rfl; go_simp) hHeld0 rfl ?_
  refine wpAnyH_ready (rs := [4, 6]) (by kernel_rfl) (by simp) ?_
  have kA : W0.drew.cell? ⟨g, 1, none⟩ = some (.slice Av P.length cv) := HW.out.blk.cell (i := 1) rfl
  have hb1 := below1 W0 (.cells #[.int .i64 f1, .int .i64 f2] 69)
  have hB1 : Blk (W0.alloc (.cells #[.int .i64 f1, .int .i64 f2] 69)).drew g [vd, .slice Av P.length cv, .int .i64 ((fieldBits P).length : Int)] 67 := HW.out.blk.below hb1.drew (by omega)
  have hF1 : Blk (W0.alloc (.cells #[.int .i64 f1, .int .i64 f2] 69)).drew w.heap.size [.int .i64 f1, .int .i64 f2] 69 := HBv.out.below hb1.drew (by omega)
  have hO1 : Owns B [fieldRow (.slice Av P.length cv) P, byteRow vd D] (W0.alloc (.cells #[.int .i64 f1, .int .i64 f2] 69)).drew := (HW.out.own.swap.below hb1).drew
  have hsn : Seen (W0.alloc (.cells #[.int .i64 f1, .int .i64 f2] 69)).drew (W0.heap.size + 1) (some ⟨w.heap.size + 1, 0, none⟩) (pairCells [(f1, f2)]) := by
    have h9 : Seen (W0.alloc (.cells #[.int .i64 f1, .int .i64 f2] 69)).drew (W0.heap.size + 1) (some ⟨W0.heap.size, 0, none⟩) (pairCells [(f1, f2)]) := Seen.new W0 (pairCells [(f1, f2)]) _ _ (Nat.lt_succ_self _)
    rw [hz0] at h9
    rw [hz0]
    exact h9
  have hzW : (W0.alloc (.cells #[.int .i64 f1, .int .i64 f2] 69)).drew.heap.size = W0.heap.size + 1 := by show (W0.alloc _).heap.size = _; simp
  have kB := hB1.cell (i := 1) (v := .slice Av P.length cv) rfl
  have hoW : Only (fun _ => False) w (W0.alloc (.cells #[.int .i64 f1, .int .i64 f2] 69)).drew := (Only.of_below Hb0.out (Nat.le_refl _) : Only (fun _ => False) w W0).trans (Only.of_below hb1.drew (Nat.le_refl _) : Only (fun _ => False) _ _) (fun q h => h.elim)
  refine AllReadyH.cons rfl (fun K hK => ?_) (AllReadyH.cons rfl (fun K hK => ?_) AllReadyH.nil)
  · go_simp
    refine hK.out _ _ hHeld0 (fun hHeld1 => ?_)
    clear hK K
    refine wpAnyH_ready (rs := [6]) (by kernel_rfl) (by simp) ?_
    refine AllReadyH.cons rfl (fun K hK => ?_) AllReadyH.nil
    go_simp
    refine hK.out _ _ hF1 (fun hHeld2 => ?_)
    clear hK K
    refine wpAnyH_ready (rs := [7]) (by kernel_rfl) (by simp) ?_
    refine AllReadyH.cons rfl (fun K hK => ?_) AllReadyH.nil
    refine step_ownV2 _ rfl (.tmp 16) (.tmp 18) 65 rfl B 69 2 16 elem_field (.slice Av P.length cv) P.length (pairCells P) [byteRow vd D] rfl hO1 (W0.heap.size + 1) (some ⟨w.heap.size + 1, 0, none⟩) 1 1 (pairCells [(f1, f2)]) rfl hsn (by simp [pairCells]) (by intro u hu; simp [pairCells] at hu; rcases hu with rfl | rfl <;> rfl) (by unfold maxLen; omega) (by omega) ?_
    intro vp' w3 hO3 hg3 hb3 hw3
    obtain ⟨A', c', hv', _, _, _⟩ := hO3.seen (List.mem_cons_self ..)
    simp only at hv'
    subst hv'
    rw [hzW] at hw3
    have hB3 := hB1.below hb3 hlow
    have hF3 := hF1.kept hg3 Hnf.out
    refine hK.out _ _ hF3 (fun hHeld3 => ?_)
    clear hK K hHeld2 hHeld1
    refine take_pure 8 20 (Value.pointer (some ⟨g, 0, none⟩)) _ rfl rfl (by kernel_rfl) (by kernel_rfl) (by kernel_rfl) (fun _ _ _ h => h) rfl (fun w' hS => by go_simp) hHeld3 rfl ?_
    refine take_pure 9 21 (Value.pointer (some ⟨g, 1, none⟩)) _ rfl rfl (by kernel_rfl) (by kernel_rfl) (by kernel_rfl) (fun _ _ _ h => h) rfl (fun w' hS => by go_simp) hHeld3 rfl ?_
    refine wpAnyH_ready (rs := [10]) (by kernel_rfl) (by simp) ?_
    refine AllReadyH.cons rfl (fun K hK => ?_) AllReadyH.nil
    have k3 := hB3.cell (i := 1) (v := .slice Av P.length cv) rfl
    have z3 := hB3.frozen 1
    have hg4 := grown_setCell w3 g 1 (.slice A' (P.length + 1) c')
    have hB4 : Blk (w3.setCell ⟨g, 1, none⟩ (.slice A' (P.length + 1) c')) g [vd, .slice A' (P.length + 1) c', .int .i64 ((fieldBits P).length : Int)] 67 := hB3.set 1 (.slice A' (P.length + 1) c')
    have hF4 := hF3.kept hg4 (by simp; omega)
    have hO4 : Owns B [fieldRow (.slice A' (P.length + 1) c') (P ++ [(f1, f2)]), byteRow vd D] (w3.setCell ⟨g, 1, none⟩ (.slice A' (P.length + 1) c')) := by rw [← fieldRow_append]; exact hO3.setCell (a := ⟨g, 1, none⟩) hlow _
    have hon1 : Only (wrF g vd (.slice Av P.length cv)) w (w3.setCell ⟨g, 1, none⟩ (.slice A' (P.length + 1) c')) := (((hoW.mono (fun q h => h.elim) : Only (wrF g vd (.slice Av P.length cv)) w _).trans (Only.of_grown hg3 (F := wrF g vd (.slice Av P.length cv)) (fun q e => .inl (.inr (.inr e)))) (fun q h => .inl h) : Only (wrF g vd (.slice Av P.length cv)) w w3)).trans (Only.of_grown hg4 (F := wrF g vd (.slice Av P.length cv)) (fun q e => by injection e with e; exact .inl (.inl e.symm))) (fun q h => .inl h)
    go_simp
    refine hK.out _ _ hF4 (fun hHeld4 => ?_)
    clear hK K hHeld3
    refine wpAnyH_done (by kernel_rfl) ?_ _
    clear hHeld4 hHeld0 kA kB hb1 hB1 hF1 hO1 hsn hzW hoW hB3 hF3 k3 z3 hg4 hO3 hg3 hb3
    rw [hz0] at hw3
    clear hz0
    have hzz := hon1.size
    obtain ⟨W4, hW4⟩ : ∃ W4, W4 = w3.setCell ⟨g, 1, none⟩ (.slice A' (P.length + 1) c') := ⟨_, rfl⟩
    rw [← hW4] at hB4 hF4 hO4 hon1 hzz ⊢
    have hB4' := hB4
    clear hB4 hW4
    have hlen : (fieldBits (P ++ [(f1, f2)])).length = (fieldBits P).length + f1.toNat := by rw [fieldBits_snoc, List.length_append, bitsN_length]
    have hf0 := Hf.out.1
    simp only at hf0
    have hfb := fieldBits_len_le P Hh.out.ok
    have hsum : IntKind.i64.wrap (((fieldBits P).length : Int) + f1) = ((fieldBits (P ++ [(f1, f2)])).length : Int) := by rw [IntKind.wrap_i64, hlen]; omega
    have c2 := hB4'.cell (i := 2) (v := .int .i64 ((fieldBits P).length : Int)) rfl
    have z2 := hB4'.frozen 2
    have d0 := hF4.cell (i := 0) (v := .int .i64 f1) rfl
    obtain ⟨N2, hN2⟩ : ∃ N2 : Int, N2 = ((fieldBits (P ++ [(f1, f2)])).length : Int) := ⟨_, rfl⟩
    have HN2 := veil hN2
    rw [← hN2] at hsum
    have HB4 := veil hB4'
    have HO4 := veil hO4
    have Hon1 := veil hon1
    have hP2 : (P ++ [(f1, f2)]).length ≤ 20000 := by rw [List.length_append]; simp; omega
    clear hlen hN2 hB4' hO4 hon1 hF4
    go_upto_region 4 with fail
    go_still_tail 9, (by kernel_rfl)
    repeat still_step
    try refine wpStill_nil ?_
    change wpList _ _ _ _ _ W4.drew
    go_wp2_with fail
    go_end0
    refine ⟨rfl, .slice A' (P.length + 1) c', ⟨?_, ?_, hlow, Hh.out.byt, ?_, hP2⟩, ?_, ?_⟩
    · rw [← HN2.out]; exact HB4.out.set 2 (.int .i64 N2)
    · exact (HO4.out.setCell (a := ⟨g, 2, none⟩) hlow _).swap.drew
    · intro f hf
      rcases List.mem_append.1 hf with hf | hf
      · exact Hh.out.ok f hf
      · rw [List.mem_singleton.1 hf]; exact Hf.out
    · exact (Hon1.out.trans (Only.of_grown (grown_setCell W4 g 2 (.int .i64 N2)) (F := wrF g vd (.slice Av P.length cv)) (fun q e => by injection e with e; exact .inl (.inl e.symm))) (fun q h => .inl h)).trans (Only.of_below ((Below.refl _ _).drew) (Nat.le_refl _) : Only (fun _ => False) _ _) (fun q h => h.elim)
    · intro q hq
      rcases hq with h | h | h
      · exact .inl (.inl h)
      · exact .inl (.inr (.inl h))
      · rcases hw3 with h2 | h2
        · rw [h2] at h; exact .inl (.inr (.inr h))
        · rw [h2] at h; injection h with h; right; omega
  · go_simp
    refine hK.out _ _ hF1 (fun hHeld1 => ?_)
    clear hK K
    refine wpAnyH_ready (rs := [4]) (by kernel_rfl) (by simp) ?_
    refine AllReadyH.cons rfl (fun K hK => ?_) AllReadyH.nil
    go_simp
    refine hK.out _ _ hF1 (fun hHeld2 => ?_)
    clear hK K
    refine wpAnyH_ready (rs := [7]) (by kernel_rfl) (by simp) ?_
    refine AllReadyH.cons rfl (fun K hK => ?_) AllReadyH.nil
    refine step_ownV2 _ rfl (.tmp 16) (.tmp 18) 65 rfl B 69 2 16 elem_field (.slice Av P.length cv) P.length (pairCells P) [byteRow vd D] rfl hO1 (W0.heap.size + 1) (some ⟨w.heap.size + 1, 0, none⟩) 1 1 (pairCells [(f1, f2)]) rfl hsn (by simp [pairCells]) (by intro u hu; simp [pairCells] at hu; rcases hu with rfl | rfl <;> rfl) (by unfold maxLen; omega) (by omega) ?_
    intro vp' w3 hO3 hg3 hb3 hw3
    obtain ⟨A', c', hv', _, _, _⟩ := hO3.seen (List.mem_cons_self ..)
    simp only at hv'
    subst hv'
    rw [hzW] at hw3
    have hB3 := hB1.below hb3 hlow
    have hF3 := hF1.kept hg3 Hnf.out
    refine hK.out _ _ hF3 (fun hHeld3 => ?_)
    clear hK K hHeld2 hHeld1
    refine take_pure 8 20 (Value.pointer (some ⟨g, 0, none⟩)) _ rfl rfl (by kernel_rfl) (by kernel_rfl) (by kernel_rfl) (fun _ _ _ h => h) rfl (fun w' hS => by go_simp) hHeld3 rfl ?_
    refine take_pure 9 21 (Value.pointer (some ⟨g, 1, none⟩)) _ rfl rfl (by kernel_rfl) (by kernel_rfl) (by kernel_rfl) (fun _ _ _ h => h) rfl (fun w' hS => by go_simp) hHeld3 rfl ?_
    refine wpAnyH_ready (rs := [10]) (by kernel_rfl) (by simp) ?_
    refine AllReadyH.cons rfl (fun K hK => ?_) AllReadyH.nil
    have k3 := hB3.cell (i := 1) (v := .slice Av P.length cv) rfl
    have z3 := hB3.frozen 1
    have hg4 := grown_setCell w3 g 1 (.slice A' (P.length + 1) c')
    have hB4 : Blk (w3.setCell ⟨g, 1, none⟩ (.slice A' (P.length + 1) c')) g [vd, .slice A' (P.length + 1) c', .int .i64 ((fieldBits P).length : Int)] 67 := hB3.set 1 (.slice A' (P.length + 1) c')
    have hF4 := hF3.kept hg4 (by simp; omega)
    have hO4 : Owns B [fieldRow (.slice A' (P.length + 1) c') (P ++ [(f1, f2)]), byteRow vd D] (w3.setCell ⟨g, 1, none⟩ (.slice A' (P.length + 1) c')) := by rw [← fieldRow_append]; exact hO3.setCell (a := ⟨g, 1, none⟩) hlow _
    have hon1 : Only (wrF g vd (.slice Av P.length cv)) w (w3.setCell ⟨g, 1, none⟩ (.slice A' (P.length + 1) c')) := (((hoW.mono (fun q h => h.elim) : Only (wrF g vd (.slice Av P.length cv)) w _).trans (Only.of_grown hg3 (F := wrF g vd (.slice Av P.length cv)) (fun q e => .inl (.inr (.inr e)))) (fun q h => .inl h) : Only (wrF g vd (.slice Av P.length cv)) w w3)).trans (Only.of_grown hg4 (F := wrF g vd (.slice Av P.length cv)) (fun q e => by injection e with e; exact .inl (.inl e.symm))) (fun q h => .inl h)
    go_simp
    refine hK.out _ _ hF4 (fun hHeld4 => ?_)
    clear hK K hHeld3
    refine wpAnyH_done (by kernel_rfl) ?_ _
    clear hHeld4 hHeld0 kA kB hb1 hB1 hF1 hO1 hsn hzW hoW hB3 hF3 k3 z3 hg4 hO3 hg3 hb3
    rw [hz0] at hw3
    clear hz0
    have hzz := hon1.size
    obtain ⟨W4, hW4⟩ : ∃ W4, W4 = w3.setCell ⟨g, 1, none⟩ (.slice A' (P.length + 1) c') := ⟨_, rfl⟩
    rw [← hW4] at hB4 hF4 hO4 hon1 hzz ⊢
    have hB4' := hB4
    clear hB4 hW4
    have hlen : (fieldBits (P ++ [(f1, f2)])).length = (fieldBits P).length + f1.toNat := by rw [fieldBits_snoc, List.length_append, bitsN_length]
    have hf0 := Hf.out.1
    simp only at hf0
    have hfb := fieldBits_len_le P Hh.out.ok
    have hsum : IntKind.i64.wrap (((fieldBits P).length : Int) + f1) = ((fieldBits (P ++ [(f1, f2)])).length : Int) := by rw [IntKind.wrap_i64, hlen]; omega
    have c2 := hB4'.cell (i := 2) (v := .int .i64 ((fieldBits P).length : Int)) rfl
    have z2 := hB4'.frozen 2
    have d0 := hF4.cell (i := 0) (v := .int .i64 f1) rfl
    obtain ⟨N2, hN2⟩ : ∃ N2 : Int, N2 = ((fieldBits (P ++ [(f1, f2)])).length : Int) := ⟨_, rfl⟩
    have HN2 := veil hN2
    rw [← hN2] at hsum
    have HB4 := veil hB4'
    have HO4 := veil hO4
    have Hon1 := veil hon1
    have hP2 : (P ++ [(f1, f2)]).length ≤ 20000 := by rw [List.length_append]; simp; omega
    clear hlen hN2 hB4' hO4 hon1 hF4
    go_upto_region 4 with fail
    go_still_tail 9, (by kernel_rfl)
    repeat still_step
    try refine wpStill_nil ?_
    change wpList _ _ _ _ _ W4.drew
    go_wp2_with fail
    go_end0
    refine ⟨rfl, .slice A' (P.length + 1) c', ⟨?_, ?_, hlow, Hh.out.byt, ?_, hP2⟩, ?_, ?_⟩
    · rw [← HN2.out]; exact HB4.out.set 2 (.int .i64 N2)
    · exact (HO4.out.setCell (a := ⟨g, 2, none⟩) hlow _).swap.drew
    · intro f hf
      rcases List.mem_append.1 hf with hf | hf
      · exact Hh.out.ok f hf
      · rw [List.mem_singleton.1 hf]; exact Hf.out
    · exact (Hon1.out.trans (Only.of_grown (grown_setCell W4 g 2 (.int .i64 N2)) (F := wrF g vd (.slice Av P.length cv)) (fun q e => by injection e with e; exact .inl (.inl e.symm))) (fun q h => .inl h)).trans (Only.of_below ((Below.refl _ _).drew) (Nat.le_refl _) : Only (fun _ => False) _ _) (fun q h => h.elim)
    · intro q hq
      rcases hq with h | h | h
      · exact .inl (.inl h)
      · exact .inl (.inr (.inl h))
      · rcases hw3 with h2 | h2
        · rw [h2] at h; exact .inl (.inr (.inr h))
        · rw [h2] at h; injection h with h; right; omega
end Go.Proofs.Ytbboakdfnjjddaa
