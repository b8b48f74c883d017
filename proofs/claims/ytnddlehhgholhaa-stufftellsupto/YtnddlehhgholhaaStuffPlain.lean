/- stuff.Stuff and stuff.Plain: their contracts. -/
import Derived.Test.YtnddlehhgholhaaStuffMath
import Derived.Test.YtnddlehhgholhaaChecked
import Derived.Laws.MakeOwn
import Derived.OpenShut
namespace Go.Proofs.Ytnddlehhgholhaa
open Go.RowKit
set_option linter.unusedVariables false
set_option linter.unusedSimpArgs false

theorem elem_byte : ElemOf Try.prog 22 5 1 1 := .mk' (z := .int .u8 0) Try.underlying22 (by kernel_rfl) rfl (by omega)
theorem info_byte : (Try.prog.info? 5).map (fun i => (i.zero, i.size, i.bytes)) = some (some (.int .u8 0), 1, 1) := by kernel_rfl
theorem run_make_bytes (n : Nat) (h : n ≤ 140737488355328) (u : World) : (Instr.makeSlice 22 (.int .i64 0) (.int .i64 (n : Int))).run Try.prog u =
    .ok (.slice (some ⟨u.heap.size, 0, none⟩) 0 n) (u.alloc (.cells (madeCells #[.int .u8 0] n) 5)) := by
  obtain ⟨i0, hi, hz0, hz1, hz2⟩ := info_parts info_byte
  have h := run_make (P := Try.prog) u 22 5 i0 (.int .u8 0) Try.underlying22 hi hz0 .i64 .i64 0 n (by omega) (by omega) (by rw [hz2]; omega) (by omega)
  simpa [hz1, Value.cells] using h

abbrev byteRow (v : Value) (l : List Int) : Row := intRow 5 .u8 v l

theorem stuff_room {bs : List Int} {k : Nat} {x : Int} (h : bs[k]? = some x) : (stuffB (bs.take k)).length + (stuff1 x).length ≤ (stuffB bs).length := by
  have e : bs = bs.take k ++ [x] ++ bs.drop (k + 1) := by rw [← take_snoc h, List.take_append_drop]
  have h2 := congrArg List.length (congrArg stuffB e)
  rw [stuffB_append, stuffB_append, stuffB_one] at h2
  simp only [List.length_append] at h2
  omega
theorem stuff_snoc {bs : List Int} {k : Nat} {x : Int} (h : bs[k]? = some x) : stuffB (bs.take (k + 1)) = stuffB (bs.take k) ++ stuff1 x := by rw [take_snoc h, stuffB_append, stuffB_one]

set_option maxHeartbeats 1000000 in
theorem stuff_any (A : Option Addr) (c G : Nat) (bs : List Int) (w : World) (hb : Seen w G A (ints .u8 bs)) (hG : G ≤ w.heap.size) (hl : (stuffB bs).length ≤ 140737488355328) :
    Calls Try.prog 13 #[.slice A bs.length c] w fun e w' => ∃ v, e = .returned v ∧ Owns w.heap.size [byteRow v (stuffB bs)] w' ∧ Below w.heap.size w w' := by
  have hl0 : bs.length ≤ 140737488355328 := Nat.le_trans (length_le_stuffB bs) hl
  have hmk := run_make_bytes bs.length (by omega)
  go_enter Try.func13, Try.ntmps13
  go_wp2_with fail
  clear hmk
  go_loopg [3, 5, 11] bs.length (fun gk v x i wr => ∃ k : Nat, gk = bs.length - k ∧ k ≤ bs.length ∧ i = .int .i64 k ∧ Owns w.heap.size [byteRow v (stuffB (bs.take k))] wr ∧ Below w.heap.size w wr)
  case atStart => exact ⟨0, rfl, Nat.zero_le _, rfl, (Owns.start w).made _ _ _ _ (by unfold maxLen; omega) (by rw [size_madeCells, Nat.mul_one]), below1 _ _⟩
  case round =>
    obtain ⟨k, rfl, hk, rfl, HO, hbel⟩ := hrel
    have hB := hbel.size
    by_cases hlt : k < bs.length
    · obtain ⟨g, o, x, rfl, hg, hx, h1⟩ := hb.int hlt
      have hroom := stuff_room hx
      have hsn := stuff_snoc hx
      have Hsn := veil hsn; clear hsn hx
      rw [← hbel.cell (by simp; omega)] at h1
      generalize stuffB (bs.take k) = out at *
      by_cases h255 : x = 255
      · subst h255
        have hs1 : (stuff1 255).length = 2 := rfl
        rw [hs1] at hroom
        go_wp2_with (first
          | (at_builtin; go_loud (refine wpList_ownI _ rfl (.tmp 15) (.tmp 17) _ rfl w.heap.size 5 .u8 1 elem_byte u3 out [] rfl HO [255] rfl (by unfold maxLen; simp; omega) (by simp; omega) ?_); intro v1 w1 HO1 hb1 hz1)
          | (at_builtin; go_loud (refine wpList_ownI _ rfl (.tmp 21) (.tmp 22) _ rfl w.heap.size 5 .u8 1 elem_byte v1 (out ++ [255]) [] rfl HO1 [0] rfl (by unfold maxLen; simp; omega) (by simp; omega) ?_); intro v2 w2 HO2 hb2 hz2))
        go_roundg (bs.length - (k + 1))
        case rel => exact ⟨k + 1, rfl, by omega, by go_num, by rw [Hsn.out]; simpa [stuff1] using HO2, (hbel.trans hb1).trans hb2⟩
        case measure => omega
      · have hb0 : (x == 255) = false := by simpa using h255
        have hs1 : stuff1 x = [x] := by unfold stuff1; rw [if_neg h255]
        have Hs1 := veil hs1
        rw [hs1] at hroom
        simp at hroom
        clear hs1 h255
        go_wp2_with (at_builtin; go_loud (refine wpList_ownI _ rfl (.tmp 15) (.tmp 17) _ rfl w.heap.size 5 .u8 1 elem_byte u3 out [] rfl HO [x] rfl (by unfold maxLen; simp; omega) (by simp; omega) ?_); intro v1 w1 HO1 hb1 hz1)
        go_roundg (bs.length - (k + 1))
        case rel => exact ⟨k + 1, rfl, by omega, by go_num, by rw [Hsn.out, Hs1.out]; exact HO1, hbel.trans hb1⟩
        case measure => omega
    · obtain rfl : k = bs.length := by omega
      rw [List.take_length] at HO
      go_wp2
      go_ret
      exact ⟨_, rfl, HO, hbel⟩

set_option maxHeartbeats 1000000 in
theorem plain_any (A : Option Addr) (c G : Nat) (bs : List Int) (w : World) (hb : Seen w G A (ints .u8 bs)) (hG : G ≤ w.heap.size) (hl : bs.length ≤ 140737488355328) :
    Calls Try.prog 10 #[.slice A bs.length c] w fun e w' => ∃ v, e = .returned (.tuple #[v, .int .i64 (plainErr bs)]) ∧ Owns w.heap.size [byteRow v (plainOut bs)] w' ∧ Below w.heap.size w w' := by
  have hmk := run_make_bytes bs.length (by omega)
  go_enter Try.func10, Try.ntmps10
  go_wp2_with fail
  clear hmk
  go_loopg [4, 5] bs.length (fun gk v i wr => ∃ (k : Nat) (acc : List Int), gk = bs.length - k ∧ k ≤ bs.length ∧ i = .int .i64 k ∧ Hid (PlInv bs k acc) ∧ acc.length ≤ k ∧ Owns w.heap.size [byteRow v acc] wr ∧ Below w.heap.size w wr)
  case atStart => exact ⟨0, [], rfl, Nat.zero_le _, rfl, veil (PlInv.start bs), Nat.zero_le _, (Owns.start w).made _ _ _ _ (by unfold maxLen; omega) (by rw [size_madeCells, Nat.mul_one]), below1 _ _⟩
  case round =>
    obtain ⟨k, acc, rfl, hk, rfl, HI, hacc, HO, hbel⟩ := hrel
    have hB := hbel.size
    by_cases hlt : k < bs.length
    · obtain ⟨g, o, x, rfl, hg, hx, h1⟩ := hb.int hlt
      have Hx := veil hx; clear hx
      rw [← hbel.cell (by simp; omega)] at h1
      by_cases h255 : x = 255
      · subst h255
        by_cases hlast : k + 1 = bs.length
        · have hpn := HI.out.last Hx.out hlast
          have hpo := plain_none hpn
          have Ho := veil hpo.1; have He := veil hpo.2
          have hlast' : (k : Int) + 1 = (bs.length : Int) := by omega
          clear hpn hpo
          go_wp2_with (first
            | (at_builtin; go_loud (refine wpList_ownI _ rfl (.tmp 15) (.tmp 20) _ rfl w.heap.size 5 .u8 1 elem_byte u4 acc [] rfl HO [255] rfl (by unfold maxLen; simp; omega) (by simp; omega) ?_); intro v1 w1 HO1 hb1 hz1; have h1' := h1; rw [← hb1.cell (by simp; omega)] at h1'))
          go_ret2
          exact ⟨_, ret_two rfl (by rw [He.out]; rfl), by rw [Ho.out]; exact (Owns.nil (hbel.trans hb1).size).fresh _ _, hbel.trans hb1⟩
        · obtain ⟨g2, o2, y, e2, hg2, hy, h2⟩ := hb.int (k := k + 1) (by omega)
          injection e2 with e2
          injection e2 with e3 e4
          subst e3 e4
          have Hy := veil hy; clear hy
          rw [← hbel.cell (by simp; omega)] at h2
          have hne : ¬ ((k : Int) + 1 = (bs.length : Int)) := by omega
          have hlt2 : (k : Int) + 1 < (bs.length : Int) := by omega
          by_cases hy0 : y = 0
          · subst hy0
            go_wp2_with (first
              | (at_builtin; go_loud (refine wpList_ownI _ rfl (.tmp 15) (.tmp 20) _ rfl w.heap.size 5 .u8 1 elem_byte u4 acc [] rfl HO [255] rfl (by unfold maxLen; simp; omega) (by simp; omega) ?_); intro v1 w1 HO1 hb1 hz1; have h1' := h1; have h2' := h2; rw [← hb1.cell (by simp; omega)] at h1' h2'))
            go_roundg (bs.length - (k + 2))
            case rel => exact ⟨k + 2, _, rfl, by omega, by go_num, veil (HI.out.lead Hx.out Hy.out), by simp; omega, HO1, hbel.trans hb1⟩
            case measure => omega
          · have hpn := HI.out.bad Hx.out Hy.out hy0
            have hpo := plain_none hpn
            have Ho := veil hpo.1; have He := veil hpo.2
            have hyb : (y != 0) = true := by simpa using hy0
            clear hpn hpo hy0
            go_wp2_with (first
              | (at_builtin; go_loud (refine wpList_ownI _ rfl (.tmp 15) (.tmp 20) _ rfl w.heap.size 5 .u8 1 elem_byte u4 acc [] rfl HO [255] rfl (by unfold maxLen; simp; omega) (by simp; omega) ?_); intro v1 w1 HO1 hb1 hz1; have h1' := h1; have h2' := h2; rw [← hb1.cell (by simp; omega)] at h1' h2'))
            go_ret2
            exact ⟨_, ret_two rfl (by rw [He.out]; rfl), by rw [Ho.out]; exact (Owns.nil (hbel.trans hb1).size).fresh _ _, hbel.trans hb1⟩
      · have hxb : (x != 255) = true := by simpa using h255
        have hxb' : (x == 255) = false := by simpa using h255
        have H255 := veil h255; clear h255
        go_wp2_with (first
          | (at_builtin; go_loud (refine wpList_ownI _ rfl (.tmp 15) (.tmp 20) _ rfl w.heap.size 5 .u8 1 elem_byte u4 acc [] rfl HO [x] rfl (by unfold maxLen; simp; omega) (by simp; omega) ?_); intro v1 w1 HO1 hb1 hz1; have h1' := h1; rw [← hb1.cell (by simp; omega)] at h1'))
        go_roundg (bs.length - (k + 1))
        case rel => exact ⟨k + 1, _, rfl, by omega, by go_num, veil (HI.out.other Hx.out H255.out), by simp; omega, HO1, hbel.trans hb1⟩
        case measure => omega
    · obtain rfl : k = bs.length := by omega
      have hpo := plain_some HI.out.done
      have Ho := veil hpo.1; have He := veil hpo.2
      clear hpo
      go_wp2
      go_ret2
      exact ⟨_, ret_two rfl (by rw [He.out]; rfl), by rw [Ho.out]; exact HO, hbel⟩
end Go.Proofs.Ytnddlehhgholhaa
