/- Texts shared by the claims of this seat, in one. -/
import Derived.Test.YtddkhkpdbjjboaaBd13
import Derived.Test.YtddkhkpdbjjboaaBd16
import Derived.Test.YtddkhkpdbjjboaaBd9
import Derived.Test.YtddkhkpdbjjboaaBd8
import Derived.Test.YtddkhkpdbjjboaaBd2
import Derived.Test.YtddkhkpdbjjboaaBd4
import Derived.Deep.Cut
import Derived.Test.YtddkhkpdbjjboaaBd10
import Derived.Test.YtddkhkpdbjjboaaBd11
import Derived.Test.YtddkhkpdbjjboaaBd3
import Derived.Test.YtddkhkpdbjjboaaBd12
/- The reference's parts where every is 0: its contract; and keep.fitting over the closed block. -/
namespace Go.Proofs.Ytddkhkpdbjjboaa
open Go.RowKit
set_option linter.unusedVariables false
set_option linter.unusedSimpArgs false
set_option maxRecDepth 100000

theorem sixteen {cs : List Int} (h : cs.length = 16) : ∃ a0 a1 a2 a3 a4 a5 a6 a7 a8 a9 a10 a11 a12 a13 a14 a15 : Int, cs = [a0, a1, a2, a3, a4, a5, a6, a7, a8, a9, a10, a11, a12, a13, a14, a15] := by
  match cs, h with
  | [a0, a1, a2, a3, a4, a5, a6, a7, a8, a9, a10, a11, a12, a13, a14, a15], _ => exact ⟨_, _, _, _, _, _, _, _, _, _, _, _, _, _, _, _, rfl⟩
theorem tab_lit (a0 a1 a2 a3 a4 a5 a6 a7 a8 a9 a10 a11 a12 a13 a14 a15 : Int) (A : Option Addr) (n c : Nat) : tabV [a0, a1, a2, a3, a4, a5, a6, a7, a8, a9, a10, a11, a12, a13, a14, a15] A n c = .agg #[.int .i64 a0, .int .i64 a1, .int .i64 a2, .int .i64 a3, .int .i64 a4, .int .i64 a5, .int .i64 a6, .int .i64 a7, .int .i64 a8, .int .i64 a9, .int .i64 a10, .int .i64 a11, .int .i64 a12, .int .i64 a13, .int .i64 a14, .int .i64 a15, .slice A n c] := rfl
theorem lit_one (a0 a1 a2 a3 a4 a5 a6 a7 a8 a9 a10 a11 a12 a13 a14 a15 : Int) (A : Option Addr) (n c : Nat) : ∀ u ∈ [Value.int .i64 a0, Value.int .i64 a1, Value.int .i64 a2, Value.int .i64 a3, Value.int .i64 a4, Value.int .i64 a5, Value.int .i64 a6, Value.int .i64 a7, Value.int .i64 a8, Value.int .i64 a9, Value.int .i64 a10, Value.int .i64 a11, Value.int .i64 a12, Value.int .i64 a13, Value.int .i64 a14, Value.int .i64 a15, Value.slice A n c], u.oneCell' = true := by
  intro u hu
  simp only [List.mem_cons, List.not_mem_nil, or_false] at hu
  rcases hu with rfl | rfl | rfl | rfl | rfl | rfl | rfl | rfl | rfl | rfl | rfl | rfl | rfl | rfl | rfl | rfl | rfl <;> rfl
theorem lit_one2 (a0 a1 a2 a3 a4 a5 a6 a7 a8 a9 a10 a11 a12 a13 a14 a15 b0 b1 b2 b3 b4 b5 b6 b7 b8 b9 b10 b11 b12 b13 b14 b15 : Int) (A : Option Addr) (n c : Nat) (A2 : Option Addr) (n2 c2 : Nat) : ∀ u ∈ [Value.int .i64 a0, Value.int .i64 a1, Value.int .i64 a2, Value.int .i64 a3, Value.int .i64 a4, Value.int .i64 a5, Value.int .i64 a6, Value.int .i64 a7, Value.int .i64 a8, Value.int .i64 a9, Value.int .i64 a10, Value.int .i64 a11, Value.int .i64 a12, Value.int .i64 a13, Value.int .i64 a14, Value.int .i64 a15, Value.slice A n c, Value.int .i64 b0, Value.int .i64 b1, Value.int .i64 b2, Value.int .i64 b3, Value.int .i64 b4, Value.int .i64 b5, Value.int .i64 b6, Value.int .i64 b7, Value.int .i64 b8, Value.int .i64 b9, Value.int .i64 b10, Value.int .i64 b11, Value.int .i64 b12, Value.int .i64 b13, Value.int .i64 b14, Value.int .i64 b15, Value.slice A2 n2 c2], u.oneCell' = true := by
  intro u hu
  simp only [List.mem_cons, List.not_mem_nil, or_false] at hu
  rcases hu with rfl | rfl | rfl | rfl | rfl | rfl | rfl | rfl | rfl | rfl | rfl | rfl | rfl | rfl | rfl | rfl | rfl | rfl | rfl | rfl | rfl | rfl | rfl | rfl | rfl | rfl | rfl | rfl | rfl | rfl | rfl | rfl | rfl | rfl <;> rfl
theorem own_cap {B c : Nat} {A : Option Addr} {l : List Int} {w : World} (h : Owns B [intRow 3 .i64 (.slice A l.length c) l] w) : l.length ≤ c := by
  obtain ⟨A2, c2, e, _, h2, _⟩ := h.seen (List.mem_cons_self ..)
  have e' : (Value.slice A l.length c) = .slice A2 l.length c2 := e
  obtain ⟨_, rfl⟩ : A = A2 ∧ c = c2 := by simpa using e'
  exact h2
set_option maxRecDepth 100000 in
set_option maxHeartbeats 4000000 in
/-- fitting tables for a list of blocks, in one segment. -/
theorem fitting0_any (L : List (List Int)) (A : Option Addr) (c G : Nat) (w : World) (hl : ∀ r ∈ L, r.length = 64) (hcap : L.length ≤ c) (h400 : L.length ≤ 400) (hin : ∀ r ∈ L, inB (-2047) 2047 r = true) (hs : Seen w G A (rowsC L)) (hG : G ≤ w.heap.size) :
    Calls Try.prog 15 #[.slice A L.length c, .int .i64 0] w fun e w' => ∃ cs syms A1 c1 cs2 syms2 A2 c2,
      e = .returned (.tuple #[tabsV cs A1 syms.length c1 cs2 A2 syms2.length c2, .bool (decide (errB (fcL true [L.length] L 1) = 0 ∧ errB (fcL false [L.length] L 1) = 0))]) ∧
        MadeT (fcL true [L.length] L 1) cs syms ∧ MadeT (fcL false [L.length] L 1) cs2 syms2 ∧ Seen w' w'.heap.size A1 (ints .i64 syms) ∧ Seen w' w'.heap.size A2 (ints .i64 syms2) ∧ Below w.heap.size w w' ∧ syms.length ≤ c1 ∧ syms2.length ≤ c2 := by
  have HF := veil (fun W h hG => frCounts_any [L.length] 0 L A c G W hl hcap (by unfold maxLen; omega) hin h hG (fun n hn => by rw [List.mem_singleton.1 hn]; exact h400) (fun k => by
    cases k with
    | zero => simp
    | succ k => simp) (by simp) (fun W => parts0_any L.length W))
  have hl1 := fcL_length true [L.length] L 1
  have hl2 := fcL_length false [L.length] L 1
  rw [show [L.length].length = 1 from rfl] at HF
  obtain ⟨X, hX⟩ : ∃ X, X = fcL true [L.length] L 1 := ⟨_, rfl⟩
  obtain ⟨Y, hY⟩ : ∃ Y, Y = fcL false [L.length] L 1 := ⟨_, rfl⟩
  rw [← hX] at HF hl1 ⊢
  rw [← hY] at HF hl2 ⊢
  clear hX hY
  obtain ⟨bb, hbb⟩ : ∃ b, b = decide (errB X = 0 ∧ errB Y = 0) := ⟨_, rfl⟩
  rw [← hbb]
  have Hbb := veil hbb
  clear hbb
  have Hl1 := veil hl1; have Hl2 := veil hl2
  have hb0 := below1 w (.cells #[.int .i64 0, .int .i64 0, .int .i64 0, .int .i64 0, .int .i64 0, .int .i64 0, .int .i64 0, .int .i64 0, .int .i64 0, .int .i64 0, .int .i64 0, .int .i64 0, .int .i64 0, .int .i64 0, .int .i64 0, .int .i64 0, .slice none 0 0, .int .i64 0, .int .i64 0, .int .i64 0, .int .i64 0, .int .i64 0, .int .i64 0, .int .i64 0, .int .i64 0, .int .i64 0, .int .i64 0, .int .i64 0, .int .i64 0, .int .i64 0, .int .i64 0, .int .i64 0, .int .i64 0, .slice none 0 0] 27)
  have hB0 := Blk.new w [.int .i64 0, .int .i64 0, .int .i64 0, .int .i64 0, .int .i64 0, .int .i64 0, .int .i64 0, .int .i64 0, .int .i64 0, .int .i64 0, .int .i64 0, .int .i64 0, .int .i64 0, .int .i64 0, .int .i64 0, .int .i64 0, .slice none 0 0, .int .i64 0, .int .i64 0, .int .i64 0, .int .i64 0, .int .i64 0, .int .i64 0, .int .i64 0, .int .i64 0, .int .i64 0, .int .i64 0, .int .i64 0, .int .i64 0, .int .i64 0, .int .i64 0, .int .i64 0, .int .i64 0, .slice none 0 0] 27
  have hz0 : (w.alloc (.cells #[.int .i64 0, .int .i64 0, .int .i64 0, .int .i64 0, .int .i64 0, .int .i64 0, .int .i64 0, .int .i64 0, .int .i64 0, .int .i64 0, .int .i64 0, .int .i64 0, .int .i64 0, .int .i64 0, .int .i64 0, .int .i64 0, .slice none 0 0, .int .i64 0, .int .i64 0, .int .i64 0, .int .i64 0, .int .i64 0, .int .i64 0, .int .i64 0, .int .i64 0, .int .i64 0, .int .i64 0, .int .i64 0, .int .i64 0, .int .i64 0, .int .i64 0, .int .i64 0, .int .i64 0, .slice none 0 0] 27)).heap.size = w.heap.size + 1 := by simp
  have hF := HF.out _ (hs.below hb0 hG) (by rw [hz0]; omega)
  have HF2 := veil hF
  have Hs := veil hs; have HB0 := veil hB0; have Hb0 := veil hb0
  clear hF HF hl1 hl2 hs hB0 hb0
  go_enter Try.func15, Try.ntmps15
  go_wp2_with fail
  refine HF2.out.mono ?_
  rintro e w1 ⟨v1, v2, rfl, HO1, hb1⟩
  obtain ⟨A1, c1, A2, c2, rfl, rfl, s1, s2⟩ := cnt_formF HO1
  have hz1 := hb1.size
  rw [hz0] at hz1
  have hB1 := HB0.out.below hb1 (by rw [hz0]; omega)
  have hbw1 := Hb0.out.trans (hb1.mono (by rw [hz0]; omega))
  have HM1 := veil (make_any A1 c1 w1.heap.size X w1 s1 (Nat.le_refl _) (by rw [Hl1.out]; unfold maxLen; decide))
  rw [Hl1.out] at HM1 ⊢
  rw [Hl2.out]
  have HB1 := veil hB1; have Hbw1 := veil hbw1; have S2 := veil s2
  clear hB1 hbw1 s1 s2 hb1 HO1 HF2 HB0 Hb0
  go_wp2_with fail
  refine HM1.out.mono ?_
  rintro e w2 ⟨cs, syms, A3, c3, rfl, hM, HO, hb2⟩
  have hs3 := HO
  have hlen16 := hM.len
  have HMt := veil hM
  obtain ⟨a0, a1, a2, a3, a4, a5, a6, a7, a8, a9, a10, a11, a12, a13, a14, a15, rfl⟩ := sixteen hlen16
  have hz2 := hb2.size
  have HB2 := veil (HB1.out.below hb2 (by omega)); have Hbw2 := veil (Hbw1.out.trans (hb2.mono (by omega))); have S2b := veil (S2.out.below hb2 (Nat.le_refl _)); have S3 := veil hs3
  clear HO hM hs3 hlen16 hb2 HB1 Hbw1 S2 HM1
  rw [tab_lit]
  have hb3 := below1 w2 (.cells #[.int .i64 a0, .int .i64 a1, .int .i64 a2, .int .i64 a3, .int .i64 a4, .int .i64 a5, .int .i64 a6, .int .i64 a7, .int .i64 a8, .int .i64 a9, .int .i64 a10, .int .i64 a11, .int .i64 a12, .int .i64 a13, .int .i64 a14, .int .i64 a15, .slice A3 syms.length c3] 25)
  have hB3 := Blk.new w2 [.int .i64 a0, .int .i64 a1, .int .i64 a2, .int .i64 a3, .int .i64 a4, .int .i64 a5, .int .i64 a6, .int .i64 a7, .int .i64 a8, .int .i64 a9, .int .i64 a10, .int .i64 a11, .int .i64 a12, .int .i64 a13, .int .i64 a14, .int .i64 a15, .slice A3 syms.length c3] 25
  have hz3 : (w2.alloc (.cells #[.int .i64 a0, .int .i64 a1, .int .i64 a2, .int .i64 a3, .int .i64 a4, .int .i64 a5, .int .i64 a6, .int .i64 a7, .int .i64 a8, .int .i64 a9, .int .i64 a10, .int .i64 a11, .int .i64 a12, .int .i64 a13, .int .i64 a14, .int .i64 a15, .slice A3 syms.length c3] 25)).heap.size = w2.heap.size + 1 := by simp
  have hone := lit_one a0 a1 a2 a3 a4 a5 a6 a7 a8 a9 a10 a11 a12 a13 a14 a15 A3 syms.length c3
  have HM2 := veil (make_any A2 c2 w2.heap.size Y _ ((S2b.out.up hz2).below hb3 (Nat.le_refl _)) (by rw [hz3]; omega) (by rw [Hl2.out]; unfold maxLen; decide))
  rw [Hl2.out] at HM2
  have HB3 := veil (HB2.out.below hb3 (by omega)); have HC3 := veil hB3; have Hbw3 := veil (Hbw2.out.trans (hb3.mono (by omega))); have S3b := veil (S3.out.below hb3)
  clear hb3 hB3 HB2 Hbw2 S3 S2b
  go_wp2_with (first
    | (refine wpList_store_new w2 rfl 25 (.tmp 8) (.tmp 21) rfl _ [.int .i64 a0, .int .i64 a1, .int .i64 a2, .int .i64 a3, .int .i64 a4, .int .i64 a5, .int .i64 a6, .int .i64 a7, .int .i64 a8, .int .i64 a9, .int .i64 a10, .int .i64 a11, .int .i64 a12, .int .i64 a13, .int .i64 a14, .int .i64 a15, .slice A3 syms.length c3] rfl rfl info_tab rfl hone ?_)
    | fail)
  refine HM2.out.mono ?_
  rintro e w4 ⟨cs2, syms2, A4, c4, rfl, hM4, HO4, hb4⟩
  have hs4 := HO4
  have hlen16 := hM4.len
  have HMt4 := veil hM4
  obtain ⟨b0, b1, b2, b3, b4, b5, b6, b7, b8, b9, b10, b11, b12, b13, b14, b15, rfl⟩ := sixteen hlen16
  have hz4 := hb4.size
  have hz3' := hz3
  have hb4' := hb4
  rw [hz3] at hz4 hb4
  have HB4 := veil (HB3.out.below hb4 (by omega)); have HC4 := veil (HC3.out.below hb4 (by omega)); have Hbw4 := veil (Hbw3.out.trans (hb4.mono (by omega))); have S3c := veil (S3b.out.below hb4'); have S4 := veil hs4
  clear HO4 hM4 hs4 hlen16 hb4 hb4' HB3 HC3 Hbw3 S3b HM2 hone hz3
  rw [tab_lit]
  have hb5 := below1 w4 (.cells #[.int .i64 b0, .int .i64 b1, .int .i64 b2, .int .i64 b3, .int .i64 b4, .int .i64 b5, .int .i64 b6, .int .i64 b7, .int .i64 b8, .int .i64 b9, .int .i64 b10, .int .i64 b11, .int .i64 b12, .int .i64 b13, .int .i64 b14, .int .i64 b15, .slice A4 syms2.length c4] 25)
  have hD5 := Blk.new w4 [.int .i64 b0, .int .i64 b1, .int .i64 b2, .int .i64 b3, .int .i64 b4, .int .i64 b5, .int .i64 b6, .int .i64 b7, .int .i64 b8, .int .i64 b9, .int .i64 b10, .int .i64 b11, .int .i64 b12, .int .i64 b13, .int .i64 b14, .int .i64 b15, .slice A4 syms2.length c4] 25
  have hz5 : (w4.alloc (.cells #[.int .i64 b0, .int .i64 b1, .int .i64 b2, .int .i64 b3, .int .i64 b4, .int .i64 b5, .int .i64 b6, .int .i64 b7, .int .i64 b8, .int .i64 b9, .int .i64 b10, .int .i64 b11, .int .i64 b12, .int .i64 b13, .int .i64 b14, .int .i64 b15, .slice A4 syms2.length c4] 25)).heap.size = w4.heap.size + 1 := by simp
  have hone := lit_one b0 b1 b2 b3 b4 b5 b6 b7 b8 b9 b10 b11 b12 b13 b14 b15 A4 syms2.length c4
  have hB5 := HB4.out.below hb5 (by omega)
  have hC5 := HC4.out.below hb5 (by omega)
  have hbw5 := Hbw4.out.trans (hb5.mono (by omega))
  have S3d := veil (S3c.out.below hb5); have S4d := veil (S4.out.below hb5)
  have hone2 := lit_one2 a0 a1 a2 a3 a4 a5 a6 a7 a8 a9 a10 a11 a12 a13 a14 a15 b0 b1 b2 b3 b4 b5 b6 b7 b8 b9 b10 b11 b12 b13 b14 b15 A3 syms.length c3 A4 syms2.length c4
  have hi34 : (Try.prog.info? 27).map (·.size) = some 34 := by kernel_rfl
  have hrC := hC5.range
  have hrD := hD5.range
  clear HB4 HC4 Hbw4 S3c S4 hb5
  go_wp2_with (first
    | (refine wpList_store_new w4 rfl 25 (.tmp 10) (.tmp 26) rfl _ [.int .i64 b0, .int .i64 b1, .int .i64 b2, .int .i64 b3, .int .i64 b4, .int .i64 b5, .int .i64 b6, .int .i64 b7, .int .i64 b8, .int .i64 b9, .int .i64 b10, .int .i64 b11, .int .i64 b12, .int .i64 b13, .int .i64 b14, .int .i64 b15, .slice A4 syms2.length c4] rfl rfl info_tab rfl hone ?_)
    | (refine wpList_load_mid rfl 25 (.tmp 8) rfl w2.heap.size 0 rfl [.int .i64 a0, .int .i64 a1, .int .i64 a2, .int .i64 a3, .int .i64 a4, .int .i64 a5, .int .i64 a6, .int .i64 a7, .int .i64 a8, .int .i64 a9, .int .i64 a10, .int .i64 a11, .int .i64 a12, .int .i64 a13, .int .i64 a14, .int .i64 a15, .slice A3 syms.length c3] _ hrC Try.underlying25 rfl info_tab ?_)
    | (refine wpList_load_mid rfl 25 (.tmp 10) rfl w4.heap.size 0 rfl [.int .i64 b0, .int .i64 b1, .int .i64 b2, .int .i64 b3, .int .i64 b4, .int .i64 b5, .int .i64 b6, .int .i64 b7, .int .i64 b8, .int .i64 b9, .int .i64 b10, .int .i64 b11, .int .i64 b12, .int .i64 b13, .int .i64 b14, .int .i64 b15, .slice A4 syms2.length c4] _ hrD Try.underlying25 rfl info_tab ?_)
    | (refine wpList_store_blk _ rfl 27 (.tmp 4) (.tmp 30) rfl w.heap.size [.int .i64 0, .int .i64 0, .int .i64 0, .int .i64 0, .int .i64 0, .int .i64 0, .int .i64 0, .int .i64 0, .int .i64 0, .int .i64 0, .int .i64 0, .int .i64 0, .int .i64 0, .int .i64 0, .int .i64 0, .int .i64 0, .slice none 0 0, .int .i64 0, .int .i64 0, .int .i64 0, .int .i64 0, .int .i64 0, .int .i64 0, .int .i64 0, .int .i64 0, .int .i64 0, .int .i64 0, .int .i64 0, .int .i64 0, .int .i64 0, .int .i64 0, .int .i64 0, .int .i64 0, .slice none 0 0] [.int .i64 a0, .int .i64 a1, .int .i64 a2, .int .i64 a3, .int .i64 a4, .int .i64 a5, .int .i64 a6, .int .i64 a7, .int .i64 a8, .int .i64 a9, .int .i64 a10, .int .i64 a11, .int .i64 a12, .int .i64 a13, .int .i64 a14, .int .i64 a15, .slice A3 syms.length c3, .int .i64 b0, .int .i64 b1, .int .i64 b2, .int .i64 b3, .int .i64 b4, .int .i64 b5, .int .i64 b6, .int .i64 b7, .int .i64 b8, .int .i64 b9, .int .i64 b10, .int .i64 b11, .int .i64 b12, .int .i64 b13, .int .i64 b14, .int .i64 b15, .slice A4 syms2.length c4] 27 hB5 rfl rfl hi34 rfl hone2 ?_; intro w6 hB6 hg6)
    | fail)
  all_goals
    have hw6 := hg6.size
    have t3 := S3d.out.kept hg6 (by omega)
    have t4 := S4d.out.kept hg6 (by rw [hz3']; omega)
    have hB7 : Blk w6 w.heap.size (tabsCells [a0, a1, a2, a3, a4, a5, a6, a7, a8, a9, a10, a11, a12, a13, a14, a15] A3 syms.length c3 [b0, b1, b2, b3, b4, b5, b6, b7, b8, b9, b10, b11, b12, b13, b14, b15] A4 syms2.length c4) 27 := hB6
    refine bodyPost_ret (v := .tuple #[tabsV [a0, a1, a2, a3, a4, a5, a6, a7, a8, a9, a10, a11, a12, a13, a14, a15] A3 syms.length c3 [b0, b1, b2, b3, b4, b5, b6, b7, b8, b9, b10, b11, b12, b13, b14, b15] A4 syms2.length c4, .bool bb]) (results_row_tmp rfl _ _ w.heap.size 27 (tabsCells [a0, a1, a2, a3, a4, a5, a6, a7, a8, a9, a10, a11, a12, a13, a14, a15] A3 syms.length c3 [b0, b1, b2, b3, b4, b5, b6, b7, b8, b9, b10, b11, b12, b13, b14, b15] A4 syms2.length c4).toArray (0, 0) _ _ rfl (by rename_i h0; show Value.bool _ = Value.bool bb; rw [Hbb.out]; first | (simp [h0]; done) | (simp [h0]; rfl)) hB7 Try.underlying27 rfl hi34) rfl ⟨[a0, a1, a2, a3, a4, a5, a6, a7, a8, a9, a10, a11, a12, a13, a14, a15], syms, A3, c3, [b0, b1, b2, b3, b4, b5, b6, b7, b8, b9, b10, b11, b12, b13, b14, b15], syms2, A4, c4, rfl, HMt.out, HMt4.out, MadeT.seen (zs := X) (cs := []) t3, MadeT.seen (zs := Y) (cs := []) t4, hbw5.grown hg6 hbw5.size (fun j hj => by injection hj with hj; omega), own_cap t3, own_cap t4⟩
end Go.Proofs.Ytddkhkpdbjjboaa

/- The closed fact of the keeps: keep.blocked is true. -/
namespace Go.Proofs.Ytddkhkpdbjjboaa
open Go.RowKit
set_option linter.unusedVariables false
set_option linter.unusedSimpArgs false
set_option maxRecDepth 100000

theorem three_in : three.length = 64 ∧ inB (-2047) 2047 three = true ∧ eL [three] = 0 := by decide +kernel
theorem three_all : AllW [(2, 1, 0)] [(0, 1, 0)] (toksB 0 [three]) := by
  have h : toksB 0 [three] = [(true, 2, 2, 3), (false, 0, 0, 0)] := by decide +kernel
  rw [h]
  intro x hx
  simp only [List.mem_cons, List.not_mem_nil, or_false] at hx
  rcases hx with rfl | rfl <;> rfl
theorem three_out {cs syms cs2 syms2 out : List Int} (h1 : outWords cs syms = [(2, 1, 0)]) (h2 : outWords cs2 syms2 = [(0, 1, 0)]) (c1 : checkErr cs syms = 0) (c2 : checkErr cs2 syms2 = 0) (h : SegOut cs syms cs2 syms2 [three] out) : eEnc cs syms cs2 syms2 [three] = 0 ∧ out.length = 1 := by
  have he : eEnc cs syms cs2 syms2 [three] = 0 := by rw [eEnc_end c1 c2 three_in.2.2, h1, h2, if_pos three_all]
  refine ⟨he, ?_⟩
  obtain ⟨raw, rfl, hby, p, hp, hu⟩ := h.2 he
  rw [h1, h2, three_bits] at hu
  have hl := congrArg List.length hu
  rw [unpack_length] at hl
  simp at hl
  obtain ⟨rfl⟩ : p = 4 := by omega
  have hr : raw = [111] := unpack_inj hby (by intro x hx; simp at hx; omega) (hu.trans (by decide +kernel))
  rw [hr]; decide +kernel
set_option maxRecDepth 100000 in
set_option maxHeartbeats 4000000 in
theorem blocked_any (w : World) : Calls Try.prog 9 #[] w fun e w' => e = .returned (.bool true) ∧ Below w.heap.size w w' := by
  have hb0 := below1 w (.cells (rowsC [three]).toArray 42)
  have hz0 : (w.alloc (.cells (rowsC [three]).toArray 42)).heap.size = w.heap.size + 1 := by simp
  have hs0 : Seen (w.alloc (.cells (rowsC [three]).toArray 42)) (w.heap.size + 1) (some ⟨w.heap.size, 0, none⟩) (rowsC [three]) := Seen.new w (rowsC [three]) _ _ (Nat.lt_succ_self _)
  have hl : ∀ r ∈ [three], r.length = 64 := fun r hr => by rw [List.mem_singleton.1 hr]; exact three_in.1
  have HF := veil (fitting0_any [three] (some ⟨w.heap.size, 0, none⟩) 1 (w.heap.size + 1) _ hl (Nat.le_refl _) (by decide) (fun r hr => by rw [List.mem_singleton.1 hr]; exact three_in.2.1) hs0 (by rw [hz0]; omega))
  have Hs0 := veil hs0; have Hb0 := veil hb0; have Hl := veil hl
  rw [show [three].length = 1 from rfl, three_fc.1, three_fc.2, decide_eq_true (show errB one2 = 0 ∧ errB one0' = 0 from ⟨three_used.2.2.2.2.1, three_used.2.2.2.2.2⟩)] at HF
  have hlit : (rowsC [three]).toArray = #[.int .i64 3, .int .i64 0, .int .i64 0, .int .i64 0, .int .i64 0, .int .i64 0, .int .i64 0, .int .i64 0, .int .i64 0, .int .i64 0, .int .i64 0, .int .i64 0, .int .i64 0, .int .i64 0, .int .i64 0, .int .i64 0, .int .i64 0, .int .i64 0, .int .i64 0, .int .i64 0, .int .i64 0, .int .i64 0, .int .i64 0, .int .i64 0, .int .i64 0, .int .i64 0, .int .i64 0, .int .i64 0, .int .i64 0, .int .i64 0, .int .i64 0, .int .i64 0, .int .i64 0, .int .i64 0, .int .i64 0, .int .i64 0, .int .i64 0, .int .i64 0, .int .i64 0, .int .i64 0, .int .i64 0, .int .i64 0, .int .i64 0, .int .i64 0, .int .i64 0, .int .i64 0, .int .i64 0, .int .i64 0, .int .i64 0, .int .i64 0, .int .i64 0, .int .i64 0, .int .i64 0, .int .i64 0, .int .i64 0, .int .i64 0, .int .i64 0, .int .i64 0, .int .i64 0, .int .i64 0, .int .i64 0, .int .i64 0, .int .i64 0, .int .i64 0] := rfl
  rw [hlit] at HF Hs0 Hb0 hz0
  clear hs0 hb0 hl hlit
  go_enter Try.func9, Try.ntmps9
  go_wp2_with fail
  refine HF.out.mono ?_
  rintro e w1 ⟨cs, syms, A1, c1, cs2, syms2, A2, c2, rfl, hM1, hM2, hs1, hs2, hb1, _, _⟩
  obtain ⟨rfl, k1, o1⟩ := one_words hM1 three_used.2.2.2.2.1 three_used.1 three_used.2.2.1
  obtain ⟨rfl, k2, o2⟩ := one_words hM2 three_used.2.2.2.2.2 three_used.2.1 three_used.2.2.2.1
  have hOut := fun out => three_out (cs := cs) (syms := [2]) (cs2 := cs2) (syms2 := [0]) (out := out) o1 o2 k1 k2
  have h34 : (tabsCells cs A1 1 c1 cs2 A2 1 c2).length = 34 := by unfold tabsCells; rw [List.length_append, tabCells_length hM1.len, tabCells_length hM2.len]
  have hone : ∀ u ∈ tabsCells cs A1 1 c1 cs2 A2 1 c2, u.oneCell' = true := fun u hu => by
    rcases List.mem_append.1 hu with h | h
    · exact tabCells_one u h
    · exact tabCells_one u h
  have hb2 := below1 w1 (.cells (tabsCells cs A1 1 c1 cs2 A2 1 c2).toArray 27)
  have hr2 := range_new w1 (tabsCells cs A1 1 c1 cs2 A2 1 c2) 27
  have hz1 := hb1.size
  rw [hz0] at hz1
  have hs0b := (Hs0.out.below hb1 (by rw [hz0]; omega)).below hb2 hz1
  have hbw := (Hb0.out.trans (hb1.mono (by rw [hz0]; omega))).trans (hb2.mono (by omega))
  have HE := veil (segEncode_any cs [2] A1 c1 cs2 [0] A2 c2 w1.heap.size [three] (some ⟨w.heap.size, 0, none⟩) 1 _ hM1.len (by unfold maxLen; decide) hM1.bnd (hs1.below hb2 (Nat.le_refl _)) hM2.len (by unfold maxLen; decide) hM2.bnd (hs2.below hb2 (Nat.le_refl _)) Hl.out (by unfold maxLen; decide) (hs0b.up hz1) (by simp))
  rw [show [three].length = 1 from rfl, show ([2] : List Int).length = 1 from rfl, show ([0] : List Int).length = 1 from rfl] at HE
  have HOut := veil hOut
  have H34 := veil h34
  have Hbw := veil hbw
  unfold tabsV at HE ⊢
  rw [show ([2] : List Int).length = 1 from rfl, show ([0] : List Int).length = 1 from rfl]
  obtain ⟨E, hE⟩ : ∃ E, E = eEnc cs [2] cs2 [0] [three] := ⟨_, rfl⟩
  rw [← hE] at HE
  have HE0 : Hid (∀ out, SegOut cs [2] cs2 [0] [three] out → E = 0 ∧ out.length = 1) := fun out h => by rw [hE]; exact hOut out h
  clear hE hOut hM1 hM2 hs1 hs2 hb1 hb2 hs0b hbw h34 HF Hs0 Hb0 o1 o2 k1 k2 HOut
  generalize tabsCells cs A1 1 c1 cs2 A2 1 c2 = zs at *
  go_wp2_with (first
    | (refine wpList_store_new w1 rfl 27 (.tmp 2) (.tmp 11) rfl _ zs rfl rfl (by rw [H34.out]; kernel_rfl) (by rw [H34.out]; rfl) hone ?_)
    | (refine wpList_load_mid rfl 27 (.tmp 2) rfl w1.heap.size 0 rfl zs _ hr2 Try.underlying27 rfl (by rw [H34.out]; kernel_rfl) ?_)
    | fail)
  refine HE.out.mono ?_
  rintro e w3 ⟨v, out, rfl, HO, hS, hb3⟩
  obtain ⟨hE0, ho⟩ := HE0.out out hS
  obtain ⟨A4, c4, hv4, _, _, _⟩ := HO.seen (List.mem_cons_self ..)
  obtain rfl : v = .slice A4 1 c4 := by rw [← ho]; exact hv4
  subst hE0
  have hfin := Hbw.out.trans (hb3.mono (by have := Hbw.out.size; simp at this ⊢; omega))
  clear HO hS hb3 ho
  go_wp2
  go_ret
  exact ⟨rfl, hfin⟩
end Go.Proofs.Ytddkhkpdbjjboaa

/- The reference's comparison of two lists of blocks tells whether they are equal. -/
namespace Go.Proofs.Ytddkhkpdbjjboaa
open Go.RowKit
set_option linter.unusedVariables false
set_option linter.unusedSimpArgs false
set_option maxRecDepth 100000

theorem blk_neq (cs ds : List Int) (hc : cs.length = 64) (hd : ds.length = 64) (u : World) : (binOp .neq 42 (blkV cs) (blkV ds)).run Try.prog u = .ok (.bool (!decide (cs = ds))) u := by
  have h := blk_eql cs ds hc hd u
  rw [run_eql_struct] at h
  rw [run_neq_struct]
  generalize (Op.equalIn 10000 42 (blkV cs) (blkV ds)).run Try.prog u = r at *
  cases r with
  | ok b w' => simp at h; obtain ⟨rfl, rfl⟩ := h; rfl
  | _ => simp at h
set_option maxRecDepth 100000 in
set_option maxHeartbeats 2000000 in
theorem eqBlk (A B : Option Addr) (c d G : Nat) (xs ys : List (List Int)) (w : World) (hx : Seen w G A (rowsC xs)) (hy : Seen w G B (rowsC ys)) (hxl : ∀ r ∈ xs, r.length = 64) (hyl : ∀ r ∈ ys, r.length = 64) (hG : G ≤ w.heap.size) (hlx : xs.length ≤ 1000000) (hly : ys.length ≤ 1000000) :
    Calls Try.prog 12 #[.slice A xs.length c, .slice B ys.length d] w fun e w' => e = .returned (.bool (decide (xs = ys))) ∧ Below w.heap.size w w' := by
  by_cases hl : xs.length = ys.length
  · have hne : ((xs.length : Int) != (ys.length : Int)) = false := by simp [hl]
    have Hl := veil hl
    clear hl
    go_enter Try.func12, Try.ntmps12
    go_wp2_with fail
    go_loopg [5, 6, 14] xs.length (fun gk i0 p0 i wr => ∃ k : Nat, gk = xs.length - k ∧ k ≤ xs.length ∧ i = .int .i64 k ∧ Hid (xs.take k = ys.take k) ∧ Below w.heap.size w wr)
    case atStart => exact ⟨0, rfl, Nat.zero_le _, rfl, veil rfl, Below.refl _ _⟩
    case round =>
      obtain ⟨k, rfl, hk, rfl, He, hbel⟩ := hrel
      obtain ⟨W1, hW1⟩ : ∃ W1, W1 = wr := ⟨_, rfl⟩
      subst hW1
      have hz := hbel.size
      by_cases hlt : k < xs.length
      · have hltz : (k : Int) < (xs.length : Int) := by omega
        have hky : (k : Int) < (ys.length : Int) := by have := Hl.out; omega
        have hxs := hx.below hbel hG
        have hys := hy.below hbel hG
        obtain ⟨g, o, r, rfl, hg, hr, hrl, hrange⟩ := hxs.row hxl (by omega) hlt
        obtain ⟨g', o', r', rfl, hg', hr', hrl', hrange'⟩ := hys.row hyl (by omega) (k := k) (by omega)
        have hN := fun u => blk_neq r r' hrl hrl' u
        have Hl1 : Hid ((ints .i64 r).length = 64) := by show _ = _; rw [ints_length, hrl]
        have Hl2 : Hid ((ints .i64 r').length = 64) := by show _ = _; rw [ints_length, hrl']
        have hone := ints_one (k := .i64) (l := r)
        have Hr := veil hr; have Hr' := veil hr'
        have hb1 := below1 W1 (.cells (ints .i64 r).toArray 42)
        have hrange2 := range_below hrange' hb1 (by omega)
        have hB1 := Blk.new W1 (ints .i64 r) 42
        have hbel2 := hbel.trans (hb1.mono hz)
        have Hnx : Hid (∀ q, q = decide (r = r') → ((xs.take (k + 1) = ys.take (k + 1)) ↔ q = true)) := by
          intro q hq
          rw [take_snoc hr, take_snoc hr', He.out, hq]
          simp
        have Hno : Hid (r ≠ r' → xs ≠ ys) := by
          intro h e
          rw [e, hr'] at hr
          injection hr with hr; exact h hr.symm
        obtain ⟨q, hq⟩ : ∃ q, q = decide (r = r') := ⟨_, rfl⟩
        have Hq := veil hq
        unfold blkV at hN
        rw [← hq] at hN
        clear hr hr' hrl hrl' hx hy hxs hys hq hrange' hb1
        generalize ints .i64 r = us at *
        generalize ints .i64 r' = vs at *
        go_upto_region 6 with (first
          | (refine wpList_load_mid rfl 42 (.tmp 17) rfl g (o + k * 64) rfl us _ hrange Try.underlying42 rfl (info_blkn Hl1.out) ?_)
          | (refine wpList_store_new W1 rfl 42 (.tmp 6) (.tmp 18) rfl zeroB.toArray us rfl rfl (info_blkn Hl1.out) (by rw [Hl1.out]; rfl) hone ?_)
          | fail)
        obtain ⟨W2, hW2⟩ : ∃ W2, W2 = W1.alloc (.cells us.toArray 42) := ⟨_, rfl⟩
        rw [← hW2] at hrange2 hB1 hbel2 ⊢
        clear hW2 hrange
        refine wp_region_held_drew (S := fun w' => Blk w' W1.heap.size us 42 ∧ w'.rangeAt g' (o' + k * 64) vs) (by kernel_rfl) ⟨hB1, hrange2⟩ (fun hHeld0 => ?_)
        refine take_load 0 19 42 (.tmp 6) W1.heap.size 0 us _ rfl rfl (by kernel_rfl) (by kernel_rfl) (by kernel_rfl) (fun _ _ _ h => h) rfl rfl rfl (fun w' h => h.1.range) Try.underlying42 rfl (info_blkn Hl1.out) hHeld0 rfl ?_
        refine take_pure 1 20 (.slice (some ⟨g', o', none⟩) ys.length d) _ rfl rfl (by kernel_rfl) (by kernel_rfl) (by kernel_rfl) (fun _ _ _ h => h) rfl (fun w' hS => by go_simp) hHeld0 rfl ?_
        refine take_pure 2 21 (.int .i64 (k : Int)) _ rfl rfl (by kernel_rfl) (by kernel_rfl) (by kernel_rfl) (fun _ _ _ h => h) rfl (fun w' hS => by go_simp) hHeld0 rfl ?_
        refine take_pure 3 22 (.pointer (some ⟨g', o' + k * 64, none⟩)) _ rfl rfl (by kernel_rfl) (by kernel_rfl) (by kernel_rfl) (fun _ _ _ h => h) rfl (fun w' hS => by go_simp) hHeld0 rfl ?_
        refine take_load 4 23 42 (.tmp 22) g' (o' + k * 64) vs _ rfl rfl (by kernel_rfl) (by kernel_rfl) (by kernel_rfl) (fun _ _ _ h => h) rfl rfl rfl (fun w' h => h.2) Try.underlying42 rfl (info_blkn Hl2.out) hHeld0 rfl ?_
        refine take_pure 5 24 (.bool (!q)) _ rfl rfl (by kernel_rfl) (by kernel_rfl) (by kernel_rfl) (fun _ _ _ h => h) rfl (fun w' hS => by go_simp) hHeld0 rfl ?_
        refine wpAnyH_done (by kernel_rfl) ?_ _
        cases q with
        | true =>
          have Hn := veil ((Hnx.out true Hq.out).2 rfl)
          go_wp2_with fail
          go_roundg (xs.length - (k + 1))
          case rel => exact ⟨k + 1, rfl, by omega, by go_num, Hn, hbel2.drew⟩
          case measure => omega
        | false =>
          have hd : decide (xs = ys) = false := decide_eq_false (Hno.out (of_decide_eq_false Hq.out.symm))
          have Hd := veil hd
          clear hd
          go_wp2_with fail
          go_ret
          exact ⟨ret_bool Hd.out.symm, hbel2.drew⟩
      · go_wp2
        go_ret
        refine ⟨ret_bool ?_, hbel⟩
        symm
        have h3 := He.out
        rw [List.take_of_length_le (by omega), List.take_of_length_le (by have := Hl.out; omega)] at h3
        simpa using h3
  · have hne : ((xs.length : Int) != (ys.length : Int)) = true := by simp; omega
    have hd : decide (xs = ys) = false := by simp; intro e; exact hl (by rw [e])
    have Hd := veil hd
    clear hd hl
    go_enter Try.func12, Try.ntmps12
    go_wp2
    go_ret
    exact ⟨ret_bool Hd.out.symm, Below.refl _ _⟩
end Go.Proofs.Ytddkhkpdbjjboaa

/- The reference's parts: its contract. -/
namespace Go.Proofs.Ytddkhkpdbjjboaa
open Go.RowKit
set_option linter.unusedVariables false
set_option linter.unusedSimpArgs false
set_option maxRecDepth 100000

theorem parts_one (n : Nat) (w : World) : Owns w.heap.size [intRow 3 .i64 (.slice (some ⟨w.heap.size, 0, none⟩) 1 1) ([n].map Int.ofNat)] (w.alloc (.cells #[.int .i64 (n : Int)] 3)) :=
  ⟨by simp, fun r hr => by
    rw [List.mem_singleton.1 hr]
    exact ⟨rfl, .inr ⟨w.heap.size, 1, _, rfl, Nat.le_refl _, heap_alloc_new w _, Nat.le_refl _, by unfold maxLen; decide, rfl, rfl⟩⟩, List.pairwise_singleton _ _⟩
end Go.Proofs.Ytddkhkpdbjjboaa

/- scan's small functions: isEvery, checkTables, marker, sizes: their contracts. -/
namespace Go.Proofs.Ytddkhkpdbjjboaa
open Go.RowKit
set_option linter.unusedVariables false
set_option linter.unusedSimpArgs false
set_option maxRecDepth 100000

theorem isEvery_yes (E : Int) (h : ¬ (E < 0 ∨ 100 < E)) (w : World) : Calls Try.prog 17 #[.int .i64 E] w fun e w' => e = .returned (.bool true) ∧ w' = w := by
  have h1 : (0 : Int) ≤ E := by omega
  have h2 : E ≤ 100 := by omega
  go_enter Try.func17, Try.ntmps17
  go_wp2
  all_goals (go_ret; exact ⟨ret_bool (by simp <;> omega), rfl⟩)
theorem isEvery_no (E : Int) (h : E < 0 ∨ 100 < E) (w : World) : Calls Try.prog 17 #[.int .i64 E] w fun e w' => e = .returned (.bool false) ∧ w' = w := by
  go_enter Try.func17, Try.ntmps17
  go_wp2
  all_goals (go_ret; exact ⟨ret_bool (by simp <;> omega), rfl⟩)
theorem marker_any (x : Int) (q : Nat) (h0 : 0 ≤ x) (h1 : x ≤ 2000000) (hq : x % 8 = (q : Int)) (w : World) : Calls Try.prog 21 #[.int .i64 x] w fun e w' => e = .returned (.int .i64 (208 + (q : Int))) ∧ w' = w := by
  have hq8 : (q : Int) < 8 := by omega
  go_enter Try.func21, Try.ntmps21
  go_wp2
  go_ret
  exact ⟨rfl, rfl⟩
set_option maxRecDepth 100000 in
set_option maxHeartbeats 2000000 in
theorem checkTables_any (cs syms : List Int) (A : Option Addr) (c : Nat) (cs2 syms2 : List Int) (A2 : Option Addr) (c2 G : Nat) (w : World)
    (hcs : cs.length = 16) (hn : syms.length ≤ maxLen) (hb : ∀ x ∈ cs, -9223372036854775808 ≤ x ∧ x ≤ 9223372036854775807) (hs : Seen w G A (ints .i64 syms))
    (hcs2 : cs2.length = 16) (hn2 : syms2.length ≤ maxLen) (hb2 : ∀ x ∈ cs2, -9223372036854775808 ≤ x ∧ x ≤ 9223372036854775807) (hs2 : Seen w G A2 (ints .i64 syms2)) (hG : G ≤ w.heap.size) :
    Calls Try.prog 18 #[tabsV cs A syms.length c cs2 A2 syms2.length c2] w fun e w' => e = .returned (.int .i64 (eTs cs syms cs2 syms2)) ∧ Below w.heap.size w w' := by
  have h17 : (tabCells cs A syms.length c).length = 17 := tabCells_length hcs
  have h17b : (tabCells cs2 A2 syms2.length c2).length = 17 := tabCells_length hcs2
  have HC1 := veil (fun W h hG => check_any cs syms A c G W hcs hn hb h hG)
  have HC2 := veil (fun W h hG => check_any cs2 syms2 A2 c2 G W hcs2 hn2 hb2 h hG)
  have hb0 := below1 w (.cells (tabsCells cs A syms.length c cs2 A2 syms2.length c2).toArray 27)
  have hz0 : (w.alloc (.cells (tabsCells cs A syms.length c cs2 A2 syms2.length c2).toArray 27)).heap.size = w.heap.size + 1 := by simp
  have hr := range_new w (tabsCells cs A syms.length c cs2 A2 syms2.length c2) 27
  have hr1 := range_left hr
  have hr2 := range_right hr
  rw [h17] at hr2
  have HE : Hid (eTs cs syms cs2 syms2 = if checkErr cs syms = 0 then checkErr cs2 syms2 else checkErr cs syms) := rfl
  have H17 := veil h17
  have H17b := veil h17b
  clear hr h17 h17b hcs hcs2 hb hb2
  unfold tabsV
  unfold tabV at HC1 HC2
  generalize tabsCells cs A syms.length c cs2 A2 syms2.length c2 = zs at *
  generalize tabCells cs A syms.length c = xs at *
  generalize tabCells cs2 A2 syms2.length c2 = ys at *
  generalize eTs cs syms cs2 syms2 = E at *
  generalize checkErr cs syms = e1 at *
  generalize checkErr cs2 syms2 = e2 at *
  go_enter Try.func18, Try.ntmps18
  go_wp2_with (first
    | (refine wpList_load_mid rfl 25 (.tmp 4) rfl w.heap.size 0 rfl xs _ hr1 Try.underlying25 rfl (by rw [H17.out]; exact info_tab) ?_)
    | fail)
  refine (HC1.out _ (hs.below hb0 hG) (by rw [hz0]; omega)).mono ?_
  rintro e w1 ⟨rfl, hb1⟩
  have hr2' := range_below hr2 hb1 (by rw [hz0]; omega)
  have hbw := hb0.trans (hb1.mono (by rw [hz0]; omega))
  clear hr1 hr2 hb0 hb1 HC1
  by_cases h0 : e1 = 0
  · subst h0
    have hE := HE.out
    rw [if_pos rfl] at hE
    subst hE
    go_wp2_with (first
      | (refine wpList_load_mid rfl 25 (.tmp 10) rfl w.heap.size 17 rfl ys _ (by simpa using hr2') Try.underlying25 rfl (by rw [H17b.out]; exact info_tab) ?_)
      | fail)
    refine (HC2.out _ (hs2.below hbw hG) (by have := hbw.size; omega)).mono ?_
    rintro e w2 ⟨rfl, hb2⟩
    have hf := hbw.trans (hb2.mono hbw.size)
    go_wp2
    go_ret
    exact ⟨rfl, hf⟩
  · have hE := HE.out
    rw [if_neg h0] at hE
    subst hE
    have hne : (E != 0) = true := by simpa using h0
    clear h0
    go_wp2
    go_ret
    exact ⟨rfl, hbw⟩
/-- What is left to cut is cut again. -/
theorem partsN_next {m E : Nat} (hE : E ≠ 0) (h : E < m) : partsN m E = E :: partsN (m - E) E := by
  unfold partsN
  rw [if_neg (by omega), if_neg (by omega), chunk_pos hE (by omega), Nat.min_eq_right (by omega)]
set_option maxRecDepth 100000 in
set_option maxHeartbeats 1000000 in
theorem sizes_any (n E : Nat) (w : World) (hn : n ≤ 100000) (hE : E ≤ 1000000) : Calls Try.prog 20 #[.int .i64 (n : Int), .int .i64 (E : Int)] w fun e w' => ∃ v, e = .returned v ∧ Owns w.heap.size [intRow 3 .i64 v ((partsN n E).map Int.ofNat)] w' ∧ Below w.heap.size w w' := by
  by_cases h0 : E = 0
  · subst h0
    have e : partsN n 0 = [n] := by unfold partsN; rw [if_pos (.inl rfl)]
    rw [e]
    have Ho := veil (parts_one n w)
    go_enter Try.func20, Try.ntmps20
    go_wp2
    go_ret
    exact ⟨_, rfl, Ho.out, below1 w _⟩
  · have hE0 : ((E : Int) == 0) = false := by simp; omega
    have HC0 : Hid (partsN n E = [] ++ partsN n E) := rfl
    have hst := Owns.start w
    go_enter Try.func20, Try.ntmps20
    go_wp2_with fail
    go_loopg [0, 5] (n + 1) (fun gk mv v wr => ∃ (m : Nat) (acc : List Nat), gk = m + 1 ∧ m ≤ n ∧ mv = .int .i64 (m : Int) ∧ acc.length + m ≤ n ∧ Hid (partsN n E = acc ++ partsN m E) ∧ Owns w.heap.size [intRow 3 .i64 v (acc.map Int.ofNat)] wr ∧ Below w.heap.size w wr)
    case atStart => exact ⟨n, [], rfl, Nat.le_refl _, rfl, by simp, HC0, hst.fresh _ _, Below.refl _ _⟩
    case round =>
      clear HC0 hst
      obtain ⟨m, acc, rfl, hm, rfl, hal, HC, HO, hbel⟩ := hrel
      have hl1 : (acc.map Int.ofNat).length = acc.length := by simp
      rcases Nat.lt_or_ge E m with hlt | hge
      · have hltz : (E : Int) < (m : Int) := by omega
        have HC2 : Hid (partsN n E = (acc ++ [E]) ++ partsN (m - E) E) := by show _ = _; rw [HC.out, partsN_next h0 hlt]; simp
        go_wp2_with (first
          | (at_builtin; go_loud (refine wpList_ownI _ rfl (.tmp 16) (.tmp 18) _ rfl w.heap.size 3 .i64 8 elem_int u5 (acc.map Int.ofNat) [] rfl HO [(E : Int)] rfl (by rw [hl1]; unfold maxLen; simp; omega) (by rw [hl1]; simp; omega) ?_); intro v4 w4 HO4 hb4 hz4)
          | fail)
        all_goals (go_roundg (m - E + 1))
        all_goals first
          | (case rel => exact ⟨m - E, acc ++ [E], rfl, by omega, by go_num, by simp; omega, HC2, by rw [List.map_append]; exact HO4, hbel.trans hb4⟩)
          | (case measure => omega)
          | omega
      · have hgez : ¬ (E : Int) < (m : Int) := by omega
        have hc : partsN n E = acc ++ [m] := by rw [HC.out, partsN_one hge]
        have Hc := veil hc
        clear hc
        go_wp2_with (first
          | (at_builtin; go_loud (refine wpList_ownI _ rfl (.tmp 20) (.tmp 22) _ rfl w.heap.size 3 .i64 8 elem_int u5 (acc.map Int.ofNat) [] rfl HO [(m : Int)] rfl (by rw [hl1]; unfold maxLen; simp; omega) (by rw [hl1]; simp; omega) ?_); intro v4 w4 HO4 hb4 hz4)
          | fail)
        go_ret
        exact ⟨_, rfl, by rw [Hc.out, List.map_append]; exact HO4, hbel.trans hb4⟩
end Go.Proofs.Ytddkhkpdbjjboaa

/- stuff.Split: its contract. -/
namespace Go.Proofs.Ytddkhkpdbjjboaa
open Go.RowKit
set_option linter.unusedVariables false
set_option linter.unusedSimpArgs false
set_option maxRecDepth 100000

theorem elem_bytes : ElemOf Try.prog 58 29 1 24 := .mk' (z := .slice none 0 0) Try.underlying58 (by kernel_rfl) rfl (by omega)
/-- A row of slices. -/
abbrev pileRow (v : Value) (vs : List Value) : Row := ⟨29, 1, v, vs.length, vs⟩
theorem pile_snoc (v : Value) (vs : List Value) (u : Value) : (⟨29, 1, v, vs.length + [u].length, vs ++ [u]⟩ : Row) = pileRow v (vs ++ [u]) := by simp [pileRow]
theorem zip_snoc {vs : List Value} {ps : List (List Int)} (h : vs.length = ps.length) (u : Value) (p : List Int) : List.zipWith byteRow (vs ++ [u]) (ps ++ [p]) = List.zipWith byteRow vs ps ++ [byteRow u p] := by
  rw [List.zipWith_append h]; rfl
/-- A piece is done; the next one begins. -/
theorem Owns.next {B : Nat} {w : World} {v m u : Value} {vs : List Value} {ms cur : List Int} {ps : List (List Int)} (hl : vs.length = ps.length)
    (h : Owns B (pileRow v (vs ++ [u]) :: numRow m ms :: byteRow u cur :: List.zipWith byteRow vs ps) w) :
    Owns B (pileRow v (vs ++ [u]) :: numRow m ms :: byteRow (.slice none 0 0) [] :: List.zipWith byteRow (vs ++ [u]) (ps ++ [cur])) w := by
  rw [zip_snoc hl]
  refine (h.fresh 5 1).toThird.perm (.cons _ (.cons _ (.cons _ ?_)))
  exact (List.perm_append_comm (l₁ := [byteRow u cur]) (l₂ := List.zipWith byteRow vs ps))
theorem Owns.finish {B : Nat} {w : World} {v m u : Value} {vs : List Value} {ms cur : List Int} {ps : List (List Int)} (hl : vs.length = ps.length)
    (h : Owns B (pileRow v (vs ++ [u]) :: numRow m ms :: byteRow u cur :: List.zipWith byteRow vs ps) w) :
    Owns B (pileRow v (vs ++ [u]) :: numRow m ms :: List.zipWith byteRow (vs ++ [u]) (ps ++ [cur])) w := by
  have h2 := (h.next hl).third.tail
  exact h2

set_option maxHeartbeats 2000000 in
theorem split_any (A : Option Addr) (c G : Nat) (bs : List Int) (w : World) (hb : Seen w G A (ints .u8 bs)) (hG : G ≤ w.heap.size) (hl : bs.length ≤ 1099511627776) (hby : ∀ x ∈ bs, 0 ≤ x ∧ x ≤ 255) :
    Calls Try.prog 49 #[.slice A bs.length c] w fun e w' => ∃ vs v m, e = .returned (.tuple #[v, m, .int .i64 (splitErr bs)]) ∧ vs.length = (splitP bs).length ∧
      Owns w.heap.size (pileRow v vs :: numRow m (splitM bs) :: List.zipWith byteRow vs (splitP bs)) w' ∧ Below w.heap.size w w' := by
  have Hby := veil hby; clear hby
  go_enter Try.func49, Try.ntmps49
  go_wp2_with fail
  go_loopg [5, 6, 7, 8] bs.length (fun gk v m u i wr => ∃ (k : Nat) (ps : List (List Int)) (ms cur : List Int) (vs : List Value), gk = bs.length - k ∧ k ≤ bs.length ∧ i = .int .i64 k ∧ Hid (SInv bs k ps ms cur) ∧ vs.length = ps.length ∧ vs.length ≤ k ∧ ms.length ≤ k ∧ cur.length ≤ k ∧
    Owns w.heap.size (pileRow v vs :: numRow m ms :: byteRow u cur :: List.zipWith byteRow vs ps) wr ∧ Below w.heap.size w wr)
  case atStart => exact ⟨0, [], [], [], [], rfl, Nat.zero_le _, rfl, veil (SInv.start bs), rfl, Nat.zero_le _, Nat.zero_le _, Nat.zero_le _, (((Owns.start w).fresh _ _).fresh _ _).fresh _ _, Below.refl _ _⟩
  case round =>
    obtain ⟨k, ps, ms, cur, vs, rfl, hk, rfl, HI, hvp, hvk, hmk, hck, HO, hbel⟩ := hrel
    have hB := hbel.size
    by_cases hlt : k < bs.length
    · obtain ⟨g, o, x, rfl, hg, hx, h1⟩ := hb.int hlt
      have Hx := veil hx; clear hx
      rw [← hbel.cell (by simp; omega)] at h1
      by_cases h255 : x = 255
      · subst h255
        by_cases hlast : k + 1 = bs.length
        · have hpn := HI.out.last Hx.out hlast
          obtain ⟨hp1, hp2, hp3⟩ := split_none hpn
          have Hp := veil hp1; have Hm := veil hp2; have He := veil hp3
          have hlast' : (k : Int) + 1 = (bs.length : Int) := by omega
          clear hpn hp1 hp2 hp3
          go_wp2
          go_ret3
          exact ⟨[], _, _, ret_three rfl rfl (by rw [He.out]; rfl), by rw [Hp.out]; rfl, by rw [Hp.out, Hm.out]; exact ((Owns.nil hbel.size).fresh _ _).fresh _ _, hbel⟩
        · obtain ⟨g2, o2, y, e2, hg2, hy, h2⟩ := hb.int (k := k + 1) (by omega)
          injection e2 with e2
          injection e2 with e3 e4
          subst e3 e4
          have hyb := Hby.out y (List.mem_of_getElem? hy)
          have Hy := veil hy; clear hy
          rw [← hbel.cell (by simp; omega)] at h2
          have hne : ¬ ((k : Int) + 1 = (bs.length : Int)) := by omega
          have hlt2 : (k : Int) + 1 < (bs.length : Int) := by omega
          by_cases hy255 : y = 255
          · subst hy255
            have hpn := HI.out.two Hx.out Hy.out
            obtain ⟨hp1, hp2, hp3⟩ := split_none hpn
            have Hp := veil hp1; have Hm := veil hp2; have He := veil hp3
            clear hpn hp1 hp2 hp3
            go_wp2
            go_ret3
            exact ⟨[], _, _, ret_three rfl rfl (by rw [He.out]; rfl), by rw [Hp.out]; rfl, by rw [Hp.out, Hm.out]; exact ((Owns.nil hbel.size).fresh _ _).fresh _ _, hbel⟩
          · by_cases hy0 : y = 0
            · subst hy0
              go_wp2_with (at_builtin; go_loud (refine wpList_ownI _ rfl (.tmp 45) (.tmp 46) _ rfl w.heap.size 5 .u8 1 elem_byte u7 cur (pileRow u5 vs :: numRow u6 ms :: List.zipWith byteRow vs ps) rfl HO.third [255, 0] rfl (by unfold maxLen; simp; omega) (by simp; omega) ?_); intro v1 w1 HO1 hb1 hz1)
              go_roundg (bs.length - (k + 2))
              case rel => exact ⟨k + 2, ps, ms, cur ++ [255, 0], vs, rfl, by omega, by go_num, veil (HI.out.pad Hx.out Hy.out), hvp, by omega, by omega, by simp; omega, HO1.toThird, hbel.trans hb1⟩
              case measure => omega
            · have hn1 : (y == 255) = false := by simpa using hy255
              have hn2 : (y == 0) = false := by simpa using hy0
              have H1 := veil hy255; have H2 := veil hy0
              clear hy255 hy0
              obtain ⟨A7, c7, e7, _, _, _⟩ := HO.third.seen (List.mem_cons_self ..)
              simp only [byteRow, intRow] at e7
              subst e7
              go_wp2_with (first
                | (at_builtin; go_loud (refine wpList_ownN _ rfl (.tmp 48) (.tmp 50) _ rfl w.heap.size 29 24 elem_bytes u5 vs.length vs (numRow u6 ms :: byteRow (.slice A7 cur.length c7) cur :: List.zipWith byteRow vs ps) rfl HO [.slice A7 cur.length c7] rfl (by simp [Value.oneCell']) (by unfold maxLen; simp; omega) (by simp; omega) ?_); intro v1 w1 HO1 hb1 hz1; have h2' := h2; rw [← hb1.cell (by simp; omega)] at h2')
                | (at_builtin; go_loud (refine wpList_ownI _ rfl (.tmp 52) (.tmp 58) _ rfl w.heap.size 3 .i64 8 elem_int u6 ms (pileRow v1 (vs ++ [.slice A7 cur.length c7]) :: byteRow (.slice A7 cur.length c7) cur :: List.zipWith byteRow vs ps) rfl (by rw [← pile_snoc]; exact HO1.swap) [y] rfl (by unfold maxLen; simp; omega) (by simp; omega) ?_); intro v2 w2 HO2 hb2 hz2))
              go_roundg (bs.length - (k + 2))
              case rel => exact ⟨k + 2, ps ++ [cur], ms ++ [y], [], vs ++ [.slice A7 cur.length c7], rfl, by omega, by go_num, veil (HI.out.mark Hx.out Hy.out H1.out H2.out), by simp [hvp], by simp; omega, by simp; omega, by simp, HO2.swap.next hvp, (hbel.trans hb1).trans hb2⟩
              case measure => omega
      · have hxb : (x != 255) = true := by simpa using h255
        have H255 := veil h255; clear h255
        go_wp2_with (at_builtin; go_loud (refine wpList_ownI _ rfl (.tmp 20) (.tmp 25) _ rfl w.heap.size 5 .u8 1 elem_byte u7 cur (pileRow u5 vs :: numRow u6 ms :: List.zipWith byteRow vs ps) rfl HO.third [x] rfl (by unfold maxLen; simp; omega) (by simp; omega) ?_); intro v1 w1 HO1 hb1 hz1)
        go_roundg (bs.length - (k + 1))
        case rel => exact ⟨k + 1, ps, ms, cur ++ [x], vs, rfl, by omega, by go_num, veil (HI.out.other Hx.out H255.out), hvp, by omega, by omega, by simp; omega, HO1.toThird, hbel.trans hb1⟩
        case measure => omega
    · obtain rfl : k = bs.length := by omega
      obtain ⟨hp1, hp2, hp3⟩ := split_some HI.out.done
      have Hp := veil hp1; have Hm := veil hp2; have He := veil hp3
      clear hp1 hp2 hp3
      obtain ⟨A7, c7, e7, _, _, _⟩ := HO.third.seen (List.mem_cons_self ..)
      simp only [byteRow, intRow] at e7
      subst e7
      go_wp2_with (at_builtin; go_loud (refine wpList_ownN _ rfl (.tmp 60) (.tmp 62) _ rfl w.heap.size 29 24 elem_bytes u5 vs.length vs (numRow u6 ms :: byteRow (.slice A7 cur.length c7) cur :: List.zipWith byteRow vs ps) rfl HO [.slice A7 cur.length c7] rfl (by simp [Value.oneCell']) (by unfold maxLen; simp; omega) (by simp; omega) ?_); intro v1 w1 HO1 hb1 hz1)
      go_ret3
      exact ⟨vs ++ [.slice A7 cur.length c7], _, _, ret_three rfl rfl (by rw [He.out]; rfl), by rw [Hp.out]; simp [hvp], by rw [Hp.out, Hm.out]; rw [pile_snoc] at HO1; exact HO1.finish hvp, hbel.trans hb1⟩
end Go.Proofs.Ytddkhkpdbjjboaa

/- scan.split: its contract. -/
namespace Go.Proofs.Ytddkhkpdbjjboaa
open Go.RowKit
set_option linter.unusedVariables false
set_option linter.unusedSimpArgs false
set_option maxRecDepth 100000

theorem zipWith_mem {α β γ : Type} {f : α → β → γ} {xs : List α} {ys : List β} {j : Nat} {x : α} {y : β} (hx : xs[j]? = some x) (hy : ys[j]? = some y) : f x y ∈ List.zipWith f xs ys := by
  have : (List.zipWith f xs ys)[j]? = some (f x y) := by rw [List.getElem?_zipWith, hx, hy]
  exact List.mem_of_getElem? this
set_option maxRecDepth 100000 in
set_option maxHeartbeats 2000000 in
theorem scanSplit_any (cs syms : List Int) (A : Option Addr) (c : Nat) (cs2 syms2 : List Int) (A2 : Option Addr) (c2 G : Nat) (bs : List Int) (A3 : Option Addr) (c3 : Nat) (n every : Int) (w : World)
    (hcs : cs.length = 16) (hn : syms.length ≤ maxLen) (hb : ∀ x ∈ cs, -9223372036854775808 ≤ x ∧ x ≤ 9223372036854775807) (hs : Seen w G A (ints .i64 syms))
    (hcs2 : cs2.length = 16) (hn2 : syms2.length ≤ maxLen) (hb2 : ∀ x ∈ cs2, -9223372036854775808 ≤ x ∧ x ≤ 9223372036854775807) (hs2 : Seen w G A2 (ints .i64 syms2))
    (hs3 : Seen w G A3 (ints .u8 bs)) (hby : ∀ x ∈ bs, 0 ≤ x ∧ x ≤ 255) (hl : bs.length ≤ 1099511627776) (hG : G ≤ w.heap.size) :
    Calls Try.prog 27 #[tabsV cs A syms.length c cs2 A2 syms2.length c2, .slice A3 bs.length c3, .int .i64 n, .int .i64 every] w fun e w' => ∃ vs Ap cp Am cm, e = .returned (.tuple #[.slice Ap vs.length cp, .slice Am (headM cs syms cs2 syms2 bs n every).length cm, .int .i64 (eHead cs syms cs2 syms2 bs n every)]) ∧ SeenRows w' w'.heap.size .u8 vs (headP cs syms cs2 syms2 bs n every) ∧ Seen w' w'.heap.size Ap vs ∧ Seen w' w'.heap.size Am (ints .i64 (headM cs syms cs2 syms2 bs n every)) ∧ Below w.heap.size w w' := by
  have h34 : (tabsCells cs A syms.length c cs2 A2 syms2.length c2).length = 34 := by unfold tabsCells; rw [List.length_append, tabCells_length hcs, tabCells_length hcs2]
  have HCk := veil (fun W h1 h2 hG => checkTables_any cs syms A c cs2 syms2 A2 c2 G W hcs hn hb h1 hcs2 hn2 hb2 h2 hG)
  have HSp := veil (fun W h hG => split_any A3 c3 G bs W h hG hl hby)
  have hb0 := below1 w (.cells (tabsCells cs A syms.length c cs2 A2 syms2.length c2).toArray 27)
  have hz0 : (w.alloc (.cells (tabsCells cs A syms.length c cs2 A2 syms2.length c2).toArray 27)).heap.size = w.heap.size + 1 := by simp
  have hr0 := range_new w (tabsCells cs A syms.length c cs2 A2 syms2.length c2) 27
  obtain ⟨E, hE⟩ : ∃ E, E = eHead cs syms cs2 syms2 bs n every := ⟨_, rfl⟩
  obtain ⟨P, hP⟩ : ∃ P, P = headP cs syms cs2 syms2 bs n every := ⟨_, rfl⟩
  obtain ⟨M, hM⟩ : ∃ M, M = headM cs syms cs2 syms2 bs n every := ⟨_, rfl⟩
  rw [← hE, ← hP, ← hM]
  have HPe : Hid (E ≠ 0 → P = [] ∧ M = []) := by
    show _ → _
    intro h
    rw [hP, hM]
    exact ⟨if_neg (by rw [← hE]; exact h), if_neg (by rw [← hE]; exact h)⟩
  have HE := veil hE
  have HP := veil hP
  have HM := veil hM
  have H34 := veil h34
  clear hcs hcs2 hb hb2 hE hP hM h34 hn hn2 hby
  unfold tabsV at HCk ⊢
  generalize tabsCells cs A syms.length c cs2 A2 syms2.length c2 = zs at *
  obtain ⟨W0, hW0⟩ : ∃ W0, W0 = w.alloc (.cells zs.toArray 27) := ⟨_, rfl⟩
  have HW0 := veil hW0
  rw [← hW0] at hb0 hz0 hr0
  clear hW0
  go_enter Try.func27, Try.ntmps27
  by_cases hrg : every < 0 ∨ 100 < every ∨ n < 0 ∨ 400 < n
  · have hE1 := HE.out.trans (eHead_arg hrg)
    obtain ⟨hP1, hM1⟩ := HPe.out (by rw [hE1]; decide)
    have HE1 := veil hE1
    have HP1 := veil hP1
    have HM1 := veil hM1
    clear hE1 hP1 hM1
    by_cases hev : every < 0 ∨ 100 < every
    · have HOu := veil (isEvery_no every hev W0)
      clear hrg hev
      go_wp2_with fail
      rw [← HW0.out]
      refine HOu.out.mono ?_
      rintro e w2 ⟨rfl, hw2⟩
      rw [hw2]
      go_wp2
      go_ret3
      exact ⟨[], none, 0, none, 0, by rw [HE1.out, HM1.out]; rfl, by rw [HP1.out]; exact SeenRows.nil _ _ _, .inl rfl, by rw [HM1.out]; exact .inl rfl, hb0⟩
    · have HOu := veil (isEvery_yes every hev W0)
      by_cases hn0 : n < 0
      · clear hrg hev
        go_wp2_with fail
        rw [← HW0.out]
        refine HOu.out.mono ?_
        rintro e w2 ⟨rfl, hw2⟩
        rw [hw2]
        go_wp2
        go_ret3
        exact ⟨[], none, 0, none, 0, by rw [HE1.out, HM1.out]; rfl, by rw [HP1.out]; exact SeenRows.nil _ _ _, .inl rfl, by rw [HM1.out]; exact .inl rfl, hb0⟩
      · have hn4 : 400 < n := by omega
        clear hrg hev
        go_wp2_with fail
        rw [← HW0.out]
        refine HOu.out.mono ?_
        rintro e w2 ⟨rfl, hw2⟩
        rw [hw2]
        go_wp2
        go_ret3
        exact ⟨[], none, 0, none, 0, by rw [HE1.out, HM1.out]; rfl, by rw [HP1.out]; exact SeenRows.nil _ _ _, .inl rfl, by rw [HM1.out]; exact .inl rfl, hb0⟩
  · have Hrg := veil hrg
    have HOu := veil (isEvery_yes every (by omega) W0)
    have hn0 : ¬ n < 0 := by omega
    have hn4 : ¬ 400 < n := by omega
    clear hrg
    go_wp2_with fail
    rw [← HW0.out]
    refine HOu.out.mono ?_
    rintro e w2 ⟨rfl, hw2⟩
    have hw2' : w2 = W0 := hw2
    subst w2
    clear HOu HW0
    go_wp2_with (first
      | (refine wpList_load_mid rfl 27 (.tmp 4) rfl w.heap.size 0 rfl zs _ hr0 Try.underlying27 rfl (by rw [H34.out]; kernel_rfl) ?_)
      | fail)
    refine (HCk.out _ (hs.below hb0 hG) (hs2.below hb0 hG) (by rw [hz0]; omega)).mono ?_
    rintro e w1 ⟨rfl, hb1⟩
    have hbw1 := hb0.trans (hb1.mono (by rw [hz0]; omega))
    have hz1 := hb1.size
    rw [hz0] at hz1
    clear hr0 hb0 HCk hb1
    by_cases h0 : eTs cs syms cs2 syms2 = 0
    · rw [h0]
      have hE1 := HE.out.trans (eHead_split Hrg.out h0)
      have hPM := head_split (bs := bs) Hrg.out h0
      have hP1 := HP.out.trans hPM.1
      have hM1 := HM.out.trans hPM.2
      have HS := veil (HSp.out w1 (hs3.below hbw1 hG) (by omega))
      rw [← hE1, ← hP1, ← hM1] at HS
      clear hE1 hPM hP1 hM1 h0 HSp
      go_wp2_with fail
      refine HS.out.mono ?_
      rintro e w2 ⟨vs, v, m, rfl, hvl, HO2, hb2⟩
      have hbw2 := hbw1.trans (hb2.mono hbw1.size)
      have hsr := Owns.rows (e := 5) (k := .u8) HO2 hvl (fun j x p hx hp => List.mem_cons_of_mem _ (List.mem_cons_of_mem _ (zipWith_mem (f := byteRow) hx hp)))
      obtain ⟨Ap, cp, hpv, hsp, _, _⟩ := HO2.seen (List.mem_cons_self ..)
      obtain ⟨Am, cm, hmv, hsm, _, _⟩ := HO2.seen (List.mem_cons_of_mem _ (List.mem_cons_self ..))
      obtain rfl : v = .slice Ap vs.length cp := hpv
      obtain rfl : m = .slice Am M.length cm := hmv
      have hsp' : Seen w2 w2.heap.size Ap vs := hsp
      have hsm' : Seen w2 w2.heap.size Am (ints .i64 M) := hsm
      have Hsr := veil hsr
      clear hb2 HS HO2 hsp hsm hsr hvl
      go_wp2_with fail
      go_ret3
      exact ⟨vs, Ap, cp, Am, cm, rfl, Hsr.out, hsp', hsm', hbw2⟩
    · have hE1 := HE.out.trans (eHead_tab Hrg.out h0)
      obtain ⟨hP1, hM1⟩ := HPe.out (by rw [hE1]; exact h0)
      have HE1 := veil hE1
      have HP1 := veil hP1
      have HM1 := veil hM1
      have hne : (eTs cs syms cs2 syms2 != 0) = true := by simpa using h0
      obtain ⟨er, her⟩ : ∃ er, er = eTs cs syms cs2 syms2 := ⟨_, rfl⟩
      rw [← her] at HE1 hne ⊢
      clear hE1 hP1 hM1 h0 her
      go_wp2_with fail
      go_ret3
      exact ⟨[], none, 0, none, 0, by rw [HE1.out, HM1.out]; rfl, by rw [HP1.out]; exact SeenRows.nil _ _ _, .inl rfl, by rw [HM1.out]; exact .inl rfl, hbw1⟩
end Go.Proofs.Ytddkhkpdbjjboaa
