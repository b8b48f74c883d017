/- Texts shared by the claims of this seat, in one. -/
import Derived.Test.YtddkhkpdbjjboaaGreatBd1
import Derived.Test.YtddkhkpdbjjboaaGreatRows
import Derived.Test.YtddkhkpdbjjboaaGreatChecked
import Derived.Laws.MakeOwn
import Derived.OpenShut
import Derived.Test.YtddkhkpdbjjboaaGreatBd4
import Derived.Laws.ResultCell
import Derived.Deep.RegionHeld3
import Derived.Test.YtddkhkpdbjjboaaGreatBd3
import Derived.StillTailTactics
import Derived.Deep.Cut
/- Stuffing, its undoing, and the division at markers, as functions of lists. No program is named here. -/
namespace Go.Proofs.YtddkhkpdbjjboaaGreat
set_option linter.unusedVariables false
set_option linter.unusedSimpArgs false
set_option maxRecDepth 100000

def stuff1 (x : Int) : List Int := if x = 255 then [255, 0] else [x]
def stuffB (bs : List Int) : List Int := bs.flatMap stuff1
theorem stuffB_cons (x : Int) (bs : List Int) : stuffB (x :: bs) = stuff1 x ++ stuffB bs := by simp [stuffB]
theorem stuffB_append (a b : List Int) : stuffB (a ++ b) = stuffB a ++ stuffB b := by simp [stuffB]
theorem stuffB_one (x : Int) : stuffB [x] = stuff1 x := by simp [stuffB]
theorem stuffB_length_le (bs : List Int) : (stuffB bs).length ≤ 2 * bs.length := by
  induction bs with
  | nil => simp [stuffB]
  | cons x bs ih =>
    rw [stuffB_cons, List.length_append, List.length_cons]
    have : (stuff1 x).length ≤ 2 := by unfold stuff1; split <;> simp
    omega
theorem stuffB_length (bs : List Int) : (stuffB bs).length = bs.length + bs.countP (· == 255) := by
  induction bs with
  | nil => simp [stuffB]
  | cons x bs ih =>
    rw [stuffB_cons, List.length_append, List.length_cons, ih, List.countP_cons]
    unfold stuff1
    by_cases h : x = 255
    · simp [h]; omega
    · simp [h]; omega

/-- What the undoing gives; none: a byte 255 that no byte 0 follows. -/
def plainR : List Int → Option (List Int)
  | [] => some []
  | [x] => if x = 255 then none else some [x]
  | x :: y :: r => if x = 255 then (if y = 0 then (plainR r).map (255 :: ·) else none) else (plainR (y :: r)).map (x :: ·)
theorem plainR_other {x : Int} (h : x ≠ 255) (r : List Int) : plainR (x :: r) = (plainR r).map (x :: ·) := by
  cases r with
  | nil => simp [plainR, h]
  | cons y r => simp [plainR, h]
theorem plainR_lead (r : List Int) : plainR (255 :: 0 :: r) = (plainR r).map (255 :: ·) := by simp [plainR]
theorem plainR_bad {y : Int} (h : y ≠ 0) (r : List Int) : plainR (255 :: y :: r) = none := by simp [plainR, h]
theorem plainR_end : plainR [255] = none := by simp [plainR]
def plainOut (bs : List Int) : List Int := (plainR bs).getD []
def plainErr (bs : List Int) : Int := if (plainR bs).isSome then 0 else 4
theorem plain_some {bs p : List Int} (h : plainR bs = some p) : plainOut bs = p ∧ plainErr bs = 0 := by simp [plainOut, plainErr, h]
theorem plain_none {bs : List Int} (h : plainR bs = none) : plainOut bs = [] ∧ plainErr bs = 4 := by simp [plainOut, plainErr, h]
theorem stuffB_plainR : ∀ (bs p : List Int), plainR bs = some p → stuffB p = bs
  | [], p, h => by simp [plainR] at h; subst h; rfl
  | [x], p, h => by
    by_cases hx : x = 255
    · simp [plainR, hx] at h
    · simp [plainR, hx] at h; subst h; simp [stuffB, stuff1, hx]
  | x :: y :: r, p, h => by
    by_cases hx : x = 255
    · by_cases hy : y = 0
      · subst hx hy
        rw [plainR_lead] at h
        cases hr : plainR r with
        | none => rw [hr] at h; simp at h
        | some q =>
          rw [hr] at h
          simp at h
          subst h
          rw [stuffB_cons, stuffB_plainR r q hr]; rfl
      · subst hx; rw [plainR_bad hy] at h; cases h
    · rw [plainR_other hx] at h
      cases hr : plainR (y :: r) with
      | none => rw [hr] at h; simp at h
      | some q =>
        rw [hr] at h
        simp at h
        subst h
        rw [stuffB_cons, stuffB_plainR (y :: r) q hr]; simp [stuff1, hx]
theorem length_le_stuffB (p : List Int) : p.length ≤ (stuffB p).length := by rw [stuffB_length]; omega

/-- The division at markers; the second list: the piece so far. -/
def splitR : List Int → List Int → Option (List (List Int) × List Int)
  | [], cur => some ([cur], [])
  | [x], cur => if x = 255 then none else some ([cur ++ [x]], [])
  | x :: y :: r, cur =>
    if x = 255 then (if y = 255 then none else if y = 0 then splitR r (cur ++ [255, 0]) else (splitR r []).map fun q => (cur :: q.1, y :: q.2))
    else splitR (y :: r) (cur ++ [x])
theorem splitR_other {x : Int} (h : x ≠ 255) (r cur : List Int) : splitR (x :: r) cur = splitR r (cur ++ [x]) := by
  cases r with
  | nil => simp [splitR, h]
  | cons y r => simp [splitR, h]
theorem splitR_pad (r cur : List Int) : splitR (255 :: 0 :: r) cur = splitR r (cur ++ [255, 0]) := by simp [splitR]
theorem splitR_mark {y : Int} (h : y ≠ 255) (h0 : y ≠ 0) (r cur : List Int) : splitR (255 :: y :: r) cur = (splitR r []).map fun q => (cur :: q.1, y :: q.2) := by simp [splitR, h, h0]
theorem splitR_end (cur : List Int) : splitR [255] cur = none := by simp [splitR]
theorem splitR_two (r cur : List Int) : splitR (255 :: 255 :: r) cur = none := by simp [splitR]
def splitP (bs : List Int) : List (List Int) := ((splitR bs []).map (·.1)).getD []
def splitM (bs : List Int) : List Int := ((splitR bs []).map (·.2)).getD []
def splitErr (bs : List Int) : Int := if (splitR bs []).isSome then 0 else 4
theorem split_some {bs : List Int} {q : List (List Int) × List Int} (h : splitR bs [] = some q) : splitP bs = q.1 ∧ splitM bs = q.2 ∧ splitErr bs = 0 := by simp [splitP, splitM, splitErr, h]
theorem split_none {bs : List Int} (h : splitR bs [] = none) : splitP bs = [] ∧ splitM bs = [] ∧ splitErr bs = 4 := by simp [splitP, splitM, splitErr, h]

/-- Where a division stands: what is done, and what is left. -/
structure SInv (bs : List Int) (k : Nat) (ps : List (List Int)) (ms cur : List Int) : Prop where
  eq : splitR bs [] = (splitR (bs.drop k) cur).map fun q => (ps ++ q.1, ms ++ q.2)
  few : ps.length = ms.length
  room : 2 * ps.length + cur.length ≤ k
theorem drop_one {xs : List Int} {k : Nat} {x : Int} (h : xs[k]? = some x) : xs.drop k = x :: xs.drop (k + 1) := by
  obtain ⟨hk, rfl⟩ := List.getElem?_eq_some_iff.1 h
  exact List.drop_eq_getElem_cons hk
section
variable {bs ms cur : List Int} {k : Nat} {ps : List (List Int)} {x y : Int}
theorem SInv.start (bs : List Int) : SInv bs 0 [] [] [] := ⟨by simp, rfl, by simp⟩
theorem SInv.other (h : SInv bs k ps ms cur) (hx : bs[k]? = some x) (hn : x ≠ 255) : SInv bs (k + 1) ps ms (cur ++ [x]) :=
  ⟨by rw [h.eq, drop_one hx, splitR_other hn], h.few, by have := h.room; simp; omega⟩
theorem SInv.pad (h : SInv bs k ps ms cur) (hx : bs[k]? = some 255) (hy : bs[k + 1]? = some 0) : SInv bs (k + 2) ps ms (cur ++ [255, 0]) :=
  ⟨by rw [h.eq, drop_one hx, drop_one hy, splitR_pad], h.few, by have := h.room; simp; omega⟩
theorem SInv.mark (h : SInv bs k ps ms cur) (hx : bs[k]? = some 255) (hy : bs[k + 1]? = some y) (h1 : y ≠ 255) (h0 : y ≠ 0) : SInv bs (k + 2) (ps ++ [cur]) (ms ++ [y]) [] :=
  ⟨by rw [h.eq, drop_one hx, drop_one hy, splitR_mark h1 h0, Option.map_map]; simp [Function.comp_def], by simp [h.few], by have := h.room; simp; omega⟩
theorem SInv.two (h : SInv bs k ps ms cur) (hx : bs[k]? = some 255) (hy : bs[k + 1]? = some 255) : splitR bs [] = none := by rw [h.eq, drop_one hx, drop_one hy, splitR_two]; rfl
theorem SInv.last (h : SInv bs k ps ms cur) (hx : bs[k]? = some 255) (hl : k + 1 = bs.length) : splitR bs [] = none := by rw [h.eq, drop_one hx, hl, List.drop_length, splitR_end]; rfl
theorem SInv.done (h : SInv bs bs.length ps ms cur) : splitR bs [] = some (ps ++ [cur], ms) := by rw [h.eq, List.drop_length]; simp [splitR]
end
/-- Where an undoing stands. -/
structure PlInv (bs : List Int) (k : Nat) (acc : List Int) : Prop where
  eq : plainR bs = (plainR (bs.drop k)).map (acc ++ ·)
  room : acc.length ≤ k
section
variable {bs acc : List Int} {k : Nat} {x y : Int}
theorem PlInv.start (bs : List Int) : PlInv bs 0 [] := ⟨by simp, Nat.le_refl _⟩
theorem PlInv.other (h : PlInv bs k acc) (hx : bs[k]? = some x) (hn : x ≠ 255) : PlInv bs (k + 1) (acc ++ [x]) :=
  ⟨by rw [h.eq, drop_one hx, plainR_other hn, Option.map_map]; simp [Function.comp_def], by have := h.room; simp; omega⟩
theorem PlInv.lead (h : PlInv bs k acc) (hx : bs[k]? = some 255) (hy : bs[k + 1]? = some 0) : PlInv bs (k + 2) (acc ++ [255]) :=
  ⟨by rw [h.eq, drop_one hx, drop_one hy, plainR_lead, Option.map_map]; simp [Function.comp_def], by have := h.room; simp; omega⟩
theorem PlInv.bad (h : PlInv bs k acc) (hx : bs[k]? = some 255) (hy : bs[k + 1]? = some y) (hn : y ≠ 0) : plainR bs = none := by rw [h.eq, drop_one hx, drop_one hy, plainR_bad hn]; rfl
theorem PlInv.last (h : PlInv bs k acc) (hx : bs[k]? = some 255) (hl : k + 1 = bs.length) : plainR bs = none := by rw [h.eq, drop_one hx, hl, List.drop_length, plainR_end]; rfl
theorem PlInv.done (h : PlInv bs bs.length acc) : plainR bs = some acc := by rw [h.eq, List.drop_length]; simp [plainR]
end
end Go.Proofs.YtddkhkpdbjjboaaGreat

/- Rows of bytes. -/
namespace Go.Proofs.YtddkhkpdbjjboaaGreat
open Go.RowKit
set_option linter.unusedVariables false
set_option linter.unusedSimpArgs false
set_option maxRecDepth 100000

theorem elem_byte : ElemOf Tryz.prog 28 5 1 1 := .mk' (z := .int .u8 0) Tryz.underlying28 (by kernel_rfl) rfl (by omega)
abbrev byteRow (v : Value) (l : List Int) : Row := intRow 5 .u8 v l
end Go.Proofs.YtddkhkpdbjjboaaGreat

/- stuff.Stuff and stuff.Plain: their contracts. -/
namespace Go.Proofs.YtddkhkpdbjjboaaGreat
open Go.RowKit
set_option linter.unusedVariables false
set_option linter.unusedSimpArgs false
set_option maxRecDepth 100000

theorem info_byteS : (Tryz.prog.info? 5).map (fun i => (i.zero, i.size, i.bytes)) = some (some (.int .u8 0), 1, 1) := by kernel_rfl
theorem run_make_bytes (n : Nat) (h : n ≤ 140737488355328) (u : World) : (Instr.makeSlice 28 (.int .i64 0) (.int .i64 (n : Int))).run Tryz.prog u =
    .ok (.slice (some ⟨u.heap.size, 0, none⟩) 0 n) (u.alloc (.cells (madeCells #[.int .u8 0] n) 5)) := by
  obtain ⟨i0, hi, hz0, hz1, hz2⟩ := info_parts info_byteS
  have h := run_make (P := Tryz.prog) u 28 5 i0 (.int .u8 0) Tryz.underlying28 hi hz0 .i64 .i64 0 n (by omega) (by omega) (by rw [hz2]; omega) (by omega)
  simpa [hz1, Value.cells] using h

theorem stuff_room {bs : List Int} {k : Nat} {x : Int} (h : bs[k]? = some x) : (stuffB (bs.take k)).length + (stuff1 x).length ≤ (stuffB bs).length := by
  have e : bs = bs.take k ++ [x] ++ bs.drop (k + 1) := by rw [← take_snoc h, List.take_append_drop]
  have h2 := congrArg List.length (congrArg stuffB e)
  rw [stuffB_append, stuffB_append, stuffB_one] at h2
  simp only [List.length_append] at h2
  omega
theorem stuff_snoc {bs : List Int} {k : Nat} {x : Int} (h : bs[k]? = some x) : stuffB (bs.take (k + 1)) = stuffB (bs.take k) ++ stuff1 x := by rw [take_snoc h, stuffB_append, stuffB_one]

set_option maxHeartbeats 1000000 in
theorem stuff_any (A : Option Addr) (c G : Nat) (bs : List Int) (w : World) (hb : Seen w G A (ints .u8 bs)) (hG : G ≤ w.heap.size) (hl : (stuffB bs).length ≤ 140737488355328) :
    Calls Tryz.prog 45 #[.slice A bs.length c] w fun e w' => ∃ v, e = .returned v ∧ Owns w.heap.size [byteRow v (stuffB bs)] w' ∧ Below w.heap.size w w' := by
  have hl0 : bs.length ≤ 140737488355328 := Nat.le_trans (length_le_stuffB bs) hl
  have hmk := run_make_bytes bs.length (by omega)
  go_enter Tryz.func45, Tryz.ntmps45
  go_wp2_with fail
  clear hmk
  go_loopg [3, 5, 11] bs.length (fun gk v x i wr => ∃ k : Nat, gk = bs.length - k ∧ k ≤ bs.length ∧ i = .int .i64 k ∧ Owns w.heap.size [byteRow v (stuffB (bs.take k))] wr ∧ Below w.heap.size w wr)
  case atStart => exact ⟨0, rfl, Nat.zero_le _, rfl, (Owns.start w).made _ _ _ _ (by unfold maxLen; omega) (by rw [size_madeCells, Nat.mul_one]), below1 _ _⟩
  case round =>
    obtain ⟨k, rfl, hk, rfl, HO, hbel⟩ := hrel
    have hB := hbel.size
    by_cases hlt : k < bs.length
    · obtain ⟨g, o, x, rfl, hg, hx, h1⟩ := hb.int hlt
      have hroom := stuff_room hx
      have hsn := stuff_snoc hx
      have Hsn := veil hsn; clear hsn hx
      rw [← hbel.cell (by simp; omega)] at h1
      generalize stuffB (bs.take k) = out at *
      by_cases h255 : x = 255
      · subst h255
        have hs1 : (stuff1 255).length = 2 := rfl
        rw [hs1] at hroom
        go_wp2_with (first
          | (at_builtin; go_loud (refine wpList_ownI _ rfl (.tmp 15) (.tmp 17) _ rfl w.heap.size 5 .u8 1 elem_byte u3 out [] rfl HO [255] rfl (by unfold maxLen; simp; omega) (by simp; omega) ?_); intro v1 w1 HO1 hb1 hz1)
          | (at_builtin; go_loud (refine wpList_ownI _ rfl (.tmp 21) (.tmp 22) _ rfl w.heap.size 5 .u8 1 elem_byte v1 (out ++ [255]) [] rfl HO1 [0] rfl (by unfold maxLen; simp; omega) (by simp; omega) ?_); intro v2 w2 HO2 hb2 hz2))
        go_roundg (bs.length - (k + 1))
        case rel => exact ⟨k + 1, rfl, by omega, by go_num, by rw [Hsn.out]; simpa [stuff1] using HO2, (hbel.trans hb1).trans hb2⟩
        case measure => omega
      · have hb0 : (x == 255) = false := by simpa using h255
        have hs1 : stuff1 x = [x] := by unfold stuff1; rw [if_neg h255]
        have Hs1 := veil hs1
        rw [hs1] at hroom
        simp at hroom
        clear hs1 h255
        go_wp2_with (at_builtin; go_loud (refine wpList_ownI _ rfl (.tmp 15) (.tmp 17) _ rfl w.heap.size 5 .u8 1 elem_byte u3 out [] rfl HO [x] rfl (by unfold maxLen; simp; omega) (by simp; omega) ?_); intro v1 w1 HO1 hb1 hz1)
        go_roundg (bs.length - (k + 1))
        case rel => exact ⟨k + 1, rfl, by omega, by go_num, by rw [Hsn.out, Hs1.out]; exact HO1, hbel.trans hb1⟩
        case measure => omega
    · obtain rfl : k = bs.length := by omega
      rw [List.take_length] at HO
      go_wp2
      go_ret
      exact ⟨_, rfl, HO, hbel⟩

set_option maxHeartbeats 1000000 in
theorem plain_any (A : Option Addr) (c G : Nat) (bs : List Int) (w : World) (hb : Seen w G A (ints .u8 bs)) (hG : G ≤ w.heap.size) (hl : bs.length ≤ 140737488355328) :
    Calls Tryz.prog 26 #[.slice A bs.length c] w fun e w' => ∃ v, e = .returned (.tuple #[v, .int .i64 (plainErr bs)]) ∧ Owns w.heap.size [byteRow v (plainOut bs)] w' ∧ Below w.heap.size w w' := by
  have hmk := run_make_bytes bs.length (by omega)
  go_enter Tryz.func26, Tryz.ntmps26
  go_wp2_with fail
  clear hmk
  go_loopg [4, 5] bs.length (fun gk v i wr => ∃ (k : Nat) (acc : List Int), gk = bs.length - k ∧ k ≤ bs.length ∧ i = .int .i64 k ∧ Hid (PlInv bs k acc) ∧ acc.length ≤ k ∧ Owns w.heap.size [byteRow v acc] wr ∧ Below w.heap.size w wr)
  case atStart => exact ⟨0, [], rfl, Nat.zero_le _, rfl, veil (PlInv.start bs), Nat.zero_le _, (Owns.start w).made _ _ _ _ (by unfold maxLen; omega) (by rw [size_madeCells, Nat.mul_one]), below1 _ _⟩
  case round =>
    obtain ⟨k, acc, rfl, hk, rfl, HI, hacc, HO, hbel⟩ := hrel
    have hB := hbel.size
    by_cases hlt : k < bs.length
    · obtain ⟨g, o, x, rfl, hg, hx, h1⟩ := hb.int hlt
      have Hx := veil hx; clear hx
      rw [← hbel.cell (by simp; omega)] at h1
      by_cases h255 : x = 255
      · subst h255
        by_cases hlast : k + 1 = bs.length
        · have hpn := HI.out.last Hx.out hlast
          have hpo := plain_none hpn
          have Ho := veil hpo.1; have He := veil hpo.2
          have hlast' : (k : Int) + 1 = (bs.length : Int) := by omega
          clear hpn hpo
          go_wp2_with (first
            | (at_builtin; go_loud (refine wpList_ownI _ rfl (.tmp 15) (.tmp 20) _ rfl w.heap.size 5 .u8 1 elem_byte u4 acc [] rfl HO [255] rfl (by unfold maxLen; simp; omega) (by simp; omega) ?_); intro v1 w1 HO1 hb1 hz1; have h1' := h1; rw [← hb1.cell (by simp; omega)] at h1'))
          go_ret2
          exact ⟨_, ret_two rfl (by rw [He.out]; rfl), by rw [Ho.out]; exact (Owns.nil (hbel.trans hb1).size).fresh _ _, hbel.trans hb1⟩
        · obtain ⟨g2, o2, y, e2, hg2, hy, h2⟩ := hb.int (k := k + 1) (by omega)
          injection e2 with e2
          injection e2 with e3 e4
          subst e3 e4
          have Hy := veil hy; clear hy
          rw [← hbel.cell (by simp; omega)] at h2
          have hne : ¬ ((k : Int) + 1 = (bs.length : Int)) := by omega
          have hlt2 : (k : Int) + 1 < (bs.length : Int) := by omega
          by_cases hy0 : y = 0
          · subst hy0
            go_wp2_with (first
              | (at_builtin; go_loud (refine wpList_ownI _ rfl (.tmp 15) (.tmp 20) _ rfl w.heap.size 5 .u8 1 elem_byte u4 acc [] rfl HO [255] rfl (by unfold maxLen; simp; omega) (by simp; omega) ?_); intro v1 w1 HO1 hb1 hz1; have h1' := h1; have h2' := h2; rw [← hb1.cell (by simp; omega)] at h1' h2'))
            go_roundg (bs.length - (k + 2))
            case rel => exact ⟨k + 2, _, rfl, by omega, by go_num, veil (HI.out.lead Hx.out Hy.out), by simp; omega, HO1, hbel.trans hb1⟩
            case measure => omega
          · have hpn := HI.out.bad Hx.out Hy.out hy0
            have hpo := plain_none hpn
            have Ho := veil hpo.1; have He := veil hpo.2
            have hyb : (y != 0) = true := by simpa using hy0
            clear hpn hpo hy0
            go_wp2_with (first
              | (at_builtin; go_loud (refine wpList_ownI _ rfl (.tmp 15) (.tmp 20) _ rfl w.heap.size 5 .u8 1 elem_byte u4 acc [] rfl HO [255] rfl (by unfold maxLen; simp; omega) (by simp; omega) ?_); intro v1 w1 HO1 hb1 hz1; have h1' := h1; have h2' := h2; rw [← hb1.cell (by simp; omega)] at h1' h2'))
            go_ret2
            exact ⟨_, ret_two rfl (by rw [He.out]; rfl), by rw [Ho.out]; exact (Owns.nil (hbel.trans hb1).size).fresh _ _, hbel.trans hb1⟩
      · have hxb : (x != 255) = true := by simpa using h255
        have hxb' : (x == 255) = false := by simpa using h255
        have H255 := veil h255; clear h255
        go_wp2_with (first
          | (at_builtin; go_loud (refine wpList_ownI _ rfl (.tmp 15) (.tmp 20) _ rfl w.heap.size 5 .u8 1 elem_byte u4 acc [] rfl HO [x] rfl (by unfold maxLen; simp; omega) (by simp; omega) ?_); intro v1 w1 HO1 hb1 hz1; have h1' := h1; rw [← hb1.cell (by simp; omega)] at h1'))
        go_roundg (bs.length - (k + 1))
        case rel => exact ⟨k + 1, _, rfl, by omega, by go_num, veil (HI.out.other Hx.out H255.out), by simp; omega, HO1, hbel.trans hb1⟩
        case measure => omega
    · obtain rfl : k = bs.length := by omega
      have hpo := plain_some HI.out.done
      have Ho := veil hpo.1; have He := veil hpo.2
      clear hpo
      go_wp2
      go_ret2
      exact ⟨_, ret_two rfl (by rw [He.out]; rfl), by rw [Ho.out]; exact HO, hbel⟩
end Go.Proofs.YtddkhkpdbjjboaaGreat

/- seg's writer: its state in numbers and in memory. -/
namespace Go.Proofs.YtddkhkpdbjjboaaGreat
open Go.RowKit
set_option linter.unusedVariables false
set_option linter.unusedSimpArgs false
set_option maxRecDepth 100000

abbrev fieldRow (v : Value) (l : List (Int × Int)) : Row := ⟨89, 2, v, l.length, pairCells l⟩
theorem fieldRow_append (v : Value) (l m : List (Int × Int)) : (⟨89, 2, v, l.length + m.length, pairCells l ++ pairCells m⟩ : Row) = fieldRow v (l ++ m) := by simp [fieldRow, pairCells]
/-- Block g is a writer: bytes that are done, fields that are not. -/
structure Wr (B g : Nat) (D : List Int) (P : List (Int × Int)) (vd vp : Value) (w : World) : Prop where
  blk : Blk w g [vd, vp, .int .i64 ((fieldBits P).length : Int)] 87
  own : Owns B [byteRow vd D, fieldRow vp P] w
  low : g < B
  byt : Bytes D
  ok : ∀ f ∈ P, okF f
  few : P.length ≤ 20000
/-- The blocks that it may write. -/
def wrF (g : Nat) (vd vp : Value) (q : Nat) : Prop := q = g ∨ vd.ownBlock = some q ∨ vp.ownBlock = some q
section
variable {B g : Nat} {D : List Int} {P : List (Int × Int)} {vd vp : Value} {w w' : World}
theorem Wr.below (h : Wr B g D P vd vp w) (hb : Below w.heap.size w w') : Wr B g D P vd vp w' := ⟨h.blk.below hb h.blk.lt, h.own.below hb, h.low, h.byt, h.ok, h.few⟩
theorem Wr.only {F : Nat → Prop} (h : Wr B g D P vd vp w) (hb : Only F w w') (hF : ∀ q, wrF g vd vp q → ¬ F q) : Wr B g D P vd vp w' :=
  ⟨hb.blk h.blk (hF g (.inl rfl)), h.own.only hb (fun r hr q hq => hF q (by
    rcases List.mem_cons.1 hr with rfl | hr
    · exact .inr (.inl hq)
    · rw [List.mem_singleton.1 hr] at hq; exact .inr (.inr hq))), h.low, h.byt, h.ok, h.few⟩
theorem Wr.foot (h : Wr B g D P vd vp w) {q : Nat} (hq : wrF g vd vp q) : q < w.heap.size ∧ g ≤ q := by
  rcases hq with rfl | hq | hq
  · exact ⟨h.blk.lt, Nat.le_refl _⟩
  · have := h.own.head.lt q hq; have := h.low; omega
  · have := h.own.tail.head.lt q hq; have := h.low; omega
end
theorem fieldBits_len_le (P : List (Int × Int)) (h : ∀ f ∈ P, okF f) : (fieldBits P).length ≤ 24 * P.length := fieldBits_le P h
theorem bits_take_done {P : List (Int × Int)} {out : List Int} {p : Nat} (h : unpack out = fieldBits P ++ List.replicate p true) (hp : p < 8) :
    8 * ((fieldBits P).length / 8) ≤ (fieldBits P).length ∧ (fieldBits P).length / 8 ≤ out.length ∧ unpack (out.take ((fieldBits P).length / 8)) = (fieldBits P).take (8 * ((fieldBits P).length / 8)) := by
  have hl := congrArg List.length h
  rw [unpack_length, List.length_append, List.length_replicate] at hl
  refine ⟨by omega, by omega, ?_⟩
  rw [unpack_take, h, List.take_append_of_le_length (by omega)]
/-- The bits behind the last full byte. -/
theorem bits_left {P : List (Int × Int)} {out : List Int} {p : Nat} (hby : Bytes out) (h : unpack out = fieldBits P ++ List.replicate p true) (hp : p < 8) (ho : 0 < (fieldBits P).length % 8) :
    ∃ x : Nat, out[(fieldBits P).length / 8]? = some (x : Int) ∧ x < 256 ∧ bitsN ((fieldBits P).length % 8) (x / 2 ^ (8 - (fieldBits P).length % 8)) = (fieldBits P).drop (8 * ((fieldBits P).length / 8)) ∧ x / 2 ^ (8 - (fieldBits P).length % 8) < 2 ^ ((fieldBits P).length % 8) := by
  have hl := congrArg List.length h
  rw [unpack_length, List.length_append, List.length_replicate] at hl
  obtain ⟨n, hn⟩ : ∃ n, n = (fieldBits P).length := ⟨_, rfl⟩
  rw [← hn] at hl ho ⊢
  obtain ⟨y, hy⟩ := some_at (xs := out) (j := n / 8) (by omega)
  have hyb := hby y (List.mem_of_getElem? hy)
  obtain ⟨x, rfl⟩ := Int.eq_ofNat_of_zero_le hyb.1
  have hx : x < 256 := by omega
  have e1 : bitsN 8 x = ((unpack out).drop (8 * (n / 8))).take 8 := by
    have e := unpack_drop out (n / 8)
    rw [← e]
    obtain ⟨hk, hk2⟩ := List.getElem?_eq_some_iff.1 hy
    rw [List.drop_eq_getElem_cons hk, hk2, unpack_cons, List.take_append_of_le_length (by rw [bitsN_length]; exact Nat.le_refl _), List.take_of_length_le (by rw [bitsN_length]; exact Nat.le_refl _), Int.toNat_natCast]
  have hd : 8 = n % 8 + (8 - n % 8) := by omega
  have e2 := bitsN_add (n % 8) (8 - n % 8) x
  rw [← hd, e1] at e2
  have e3 := congrArg (List.take (n % 8)) e2
  rw [List.take_left' (bitsN_length _ _), List.take_take, Nat.min_eq_left (by omega), h, List.drop_append_of_le_length (by omega), List.take_append_of_le_length (by rw [List.length_drop]; omega), List.take_of_length_le (by rw [List.length_drop]; omega)] at e3
  refine ⟨x, hy, hx, e3.symm, ?_⟩
  rw [Nat.div_lt_iff_lt_mul (Nat.two_pow_pos _), ← Nat.pow_add, ← hd]
  exact hx
end Go.Proofs.YtddkhkpdbjjboaaGreat

/- A call of a function that was handed over, its number a letter; a block and two numbers handed back; what a call may do to one block. No program is named here. -/
namespace Go.Proofs.YtddkhkpdbjjboaaGreat
open Go.RowKit
set_option linter.unusedVariables false
set_option linter.unusedSimpArgs false
set_option maxRecDepth 100000

/-- A call of this function enters its body. -/
def Enters (P : Program) (f : FuncId) : Prop := ∀ (args : Array Value) (w : World), (callFunc f args).run P w = .ok (.enter f args) w
theorem Enters.of {P : Program} {f : FuncId} {fn : Func} (h : P.funcs[f]? = some fn) (hn : (fn.name == "runtime.NumGoroutine") = false) (hb : fn.body.isNone = false) : Enters P f := by
  intro args w
  have h1 : ¬ fn.name = "runtime.NumGoroutine" := by simpa using hn
  have h2 : ¬ fn.body = none := by intro e; rw [e] at hb; cases hb
  simp [callFunc, h, h1, h2]
theorem results_row_tmp2 {P : Program} {fn : Func} {p u u2 : Tmp} {ty : TypeId} (h : fn.results = #[.cell p ty, .tmp u, .tmp u2]) (tmps : Array Value) (w : World) (g : Nat) (t : TypeId) (cs : Array Value) (fr : Nat × Nat) (d : TypeDesc) (x y : Value)
    (hp : tmps.getD p undef = .pointer (some ⟨g, 0, none⟩)) (hx : tmps.getD u undef = x) (hy : tmps.getD u2 undef = y) (hg : w.heap[g]? = some (.cells cs t fr))
    (hu : P.underlying ty = some d) (hd : (match d with | .struct _ | .array _ _ => true | _ => false) = true) (hi : (P.info? ty).map (·.size) = some cs.size) :
    (results fn tmps).run P w = .ok (.tuple #[.agg cs, x, y]) w := by
  have hp' : tmps[p]?.getD undef = .pointer (some ⟨g, 0, none⟩) := by simpa using hp
  have hx' : tmps[u]?.getD undef = x := by simpa using hx
  have hy' : tmps[u2]?.getD undef = y := by simpa using hy
  simp [results, h, hp', hx', hy', asAddr, run_loadVar_row w g t ty cs fr d hg hu hd hi, Sem.run_bind, Result.andThen]
/-- Only block g of those that were there has changed. -/
theorem grown_below {w w1 w2 : World} {B g : Nat} (h : w.grownBy w1 (some g)) (hb : Below B w1 w2) (hB : w.heap.size ≤ B) : w.grownBy w2 (some g) :=
  ⟨hb.os.trans h.os, hb.tape.trans h.tape, hb.output.trans h.output, Nat.le_trans h.size hb.size, fun i hi hr => (hb.block i (by omega)).trans (h.block i hi hr)⟩
theorem grown_set {w w1 : World} {g b k : Nat} {v : Value} (h : w.grownBy w1 (some g)) (hb : w.heap.size ≤ b) : w.grownBy (w1.setCell ⟨b, k, none⟩ v) (some g) :=
  ⟨h.os, h.tape, h.output, by have := h.size; simpa [World.setCell] using this, fun i hi hr => (Below.heap_setCell _ _ _ _ (by simp; omega)).trans (h.block i hi hr)⟩
theorem grown_grown {w w1 w2 : World} {g b : Nat} (h : w.grownBy w1 (some g)) (h2 : w1.grownBy w2 (some b)) (hb : w.heap.size ≤ b) : w.grownBy w2 (some g) :=
  ⟨h2.os.trans h.os, h2.tape.trans h.tape, h2.output.trans h.output, Nat.le_trans h.size h2.size, fun i hi hr => (h2.block i (by have := h.size; omega) (by simp; omega)).trans (h.block i hi hr)⟩
theorem grown_setCell (w : World) (g k : Nat) (v : Value) : w.grownBy (w.setCell ⟨g, k, none⟩ v) (some g) := ⟨rfl, rfl, rfl, by simp [World.setCell], fun i _ hi => Below.heap_setCell _ _ _ _ (fun e => hi (by rw [e]))⟩
theorem Seen.grown {w w' : World} {G g : Nat} {A : Option Addr} {xs : List Value} (h : Seen w G A xs) (hg : w.grownBy w' (some g)) (h1 : G ≤ g) (h2 : G ≤ w.heap.size) : Seen w' G A xs :=
  h.of w w' fun p hp => World.cell?_of_block (hg.block p.block (by omega) (by simp; omega))
end Go.Proofs.YtddkhkpdbjjboaaGreat

/- A drawn region driven by hand: what may be taken first is taken first, where its result goes is told. No program is named here. -/
namespace Go.Proofs.YtddkhkpdbjjboaaGreat
open Go.RowKit
set_option linter.unusedVariables false
set_option linter.unusedSimpArgs false
set_option maxRecDepth 100000
section
variable {P : Program} {ops : Array Oper} {Q : Exit → Act → World → Prop} {md : Region.Mode} {S : World → Prop} {fuel : Nat} {listed : Array Bool} {ts : List Value} {w : World}
theorem put_some (ts : List Value) (d : Nat) (v : Value) : (({ tmps := ts.toArray, defers := [] } : Act).put (some d) v) = { tmps := (ts.set d v).toArray, defers := [] } := by
  simp [Act.put]
/-- What yields in every world that meets S is taken first. -/
theorem take_pure (i : Nat) (d : Nat) (v : Value) (ts' : List Value) {oi : Oper} (hi : ops[i]? = some oi) (hd : oi.dst = some d) (hs : Region.noSelect ops = true) (hf : Region.free md ops listed i = true) (hr : (Region.ready md ops listed).contains i = true)
    (hQ : ∀ c a w, Q (.panic c) (a.put oi.dst v) w → Q (.panic c) a w) (hw : Region.wanted oi (yielded ops ts.toArray) = true) (hy : ∀ w, S w → (execOp ({ tmps := ts.toArray, defers := [] } : Act).eval oi).run P w = .ok (.value v) w) (hS : S w) (ht : ts.set d v = ts')
    (h : wpAnyH P md ops Q S fuel (listed.setIfInBounds i true) { tmps := ts'.toArray, defers := [] } w) : wpAnyH P md ops Q S (fuel + 1) listed { tmps := ts.toArray, defers := [] } w := by
  refine wpAnyH_take hi hs hf hr hQ (.inl ⟨hw, hy⟩) hS ?_
  rw [hd, put_some, ht]
  exact h
/-- A long load is taken first. -/
theorem take_load (i : Nat) (d : Nat) (ty : TypeId) (x : Operand) (b o : Nat) (cs : List Value) (ts' : List Value) {oi : Oper} {dd : TypeDesc} (hi : ops[i]? = some oi) (hd : oi.dst = some d) (hs : Region.noSelect ops = true) (hf : Region.free md ops listed i = true) (hr : (Region.ready md ops listed).contains i = true)
    (hQ : ∀ c a w, Q (.panic c) (a.put oi.dst (.agg cs.toArray)) w → Q (.panic c) a w) (hw : Region.wanted oi (yielded ops ts.toArray) = true) (ho : oi.op = .load ty x) (hx : ({ tmps := ts.toArray, defers := [] } : Act).eval x = .pointer (some ⟨b, o, none⟩))
    (hc : ∀ w, S w → w.rangeAt b o cs) (hu : P.underlying ty = some dd) (hdd : dd.isRow = true) (hsz : (P.info? ty).map (·.size) = some cs.length) (hS : S w) (ht : ts.set d (.agg cs.toArray) = ts')
    (h : wpAnyH P md ops Q S fuel (listed.setIfInBounds i true) { tmps := ts'.toArray, defers := [] } w) : wpAnyH P md ops Q S (fuel + 1) listed { tmps := ts.toArray, defers := [] } w := by
  refine wpAnyH_take hi hs hf hr hQ (yieldsIf_load_mid hw ty x ho b o hx cs dd hc hu hdd hsz) hS ?_
  rw [hd, put_some, ht]
  exact h
end
end Go.Proofs.YtddkhkpdbjjboaaGreat

/- seg's writer: add, its contract. -/
namespace Go.Proofs.YtddkhkpdbjjboaaGreat
open Go.RowKit
set_option linter.unusedVariables false
set_option linter.unusedSimpArgs false
set_option maxRecDepth 100000

set_option maxRecDepth 100000 in
set_option maxHeartbeats 4000000 in
theorem add_small (B g : Nat) (D : List Int) (P : List (Int × Int)) (vd vp : Value) (f1 f2 : Int) (w : World) (h : Wr B g D P vd vp w) (hf : okF (f1, f2)) (hP : P.length < 20000) :
    Calls Tryz.prog 44 #[.pointer (some ⟨g, 0, none⟩), .agg #[.int .i64 f1, .int .i64 f2]] w fun e w' => e = .returned (.tuple #[]) ∧ ∃ vp', Wr B g D (P ++ [(f1, f2)]) vd vp' w' ∧ Only (wrF g vd vp) w w' ∧ ∀ q, wrF g vd vp' q → wrF g vd vp q ∨ w.heap.size ≤ q := by
  have hgl := h.blk.lt
  have hlow := h.low
  have hb0 := below1 w (.cells #[.int .i64 f1, .int .i64 f2] 89)
  have hW := h.below hb0
  have HB : Blk (w.alloc (.cells #[.int .i64 f1, .int .i64 f2] 89)) w.heap.size [.int .i64 f1, .int .i64 f2] 89 := Blk.new w [.int .i64 f1, .int .i64 f2] 89
  obtain ⟨Av, cv, hv, _, hcv, hmv⟩ := h.own.seen (List.mem_cons_of_mem _ (List.mem_cons_self ..))
  simp only [fieldRow] at hv hcv
  have hneb : ((P.length : Int) == 20000) = false := by simp; omega
  have hne : ¬ ((P.length : Int) = 20000) := by omega
  have hvn : ∀ q, vp.ownBlock = some q → q < w.heap.size := fun q hq => (h.own.tail.head.lt q hq).2
  subst hv
  have k1 := hW.blk.cell (i := 1) (v := .slice Av P.length cv) rfl
  have Hh := veil h
  have Hf := veil hf
  have HW := veil hW
  have HBv := veil HB
  have Hvn := veil hvn
  have Hb0 := veil hb0
  clear h hf hW HB hvn hb0
  go_enter Tryz.func44, Tryz.ntmps44
  go_upto_region 3 with fail
  obtain ⟨W0, hW0⟩ : ∃ W0, W0 = w.alloc (.cells #[.int .i64 f1, .int .i64 f2] 89) := ⟨_, rfl⟩
  rw [← hW0] at HW HBv Hb0 k1 ⊢
  have hz0 : W0.heap.size = w.heap.size + 1 := by rw [hW0]; simp
  have e0 := HBv.out.cell (i := 0) (v := .int .i64 f1) rfl
  have e1 := HBv.out.cell (i := 1) (v := .int .i64 f2) rfl
  clear hW0 e0 e1
  have hnf : some w.heap.size ≠ (Value.slice Av P.length cv).ownBlock := fun e => by have := Hvn.out _ e.symm; omega
  have Hnf := veil hnf
  have hP1 : P.length + 1 ≤ 1000000 := by omega
  clear k1 hnf
  refine wp_region_held_drew (S := fun w' => Blk w' w.heap.size [.int .i64 f1, .int .i64 f2] 89) (by kernel_rfl) (show Blk W0.drew w.heap.size _ _ from HBv.out) (fun hHeld0 => ?_)
  refine take_pure 0 12 (Value.pointer (some ⟨g, 0, none⟩)) _ rfl rfl (by kernel_rfl) (by kernel_rfl) (by kernel_rfl) (fun _ _ _ h => h) rfl (fun w' hS => by go_simp) hHeld0 rfl ?_
  refine take_pure 1 13 (Value.pointer (some ⟨g, 0, none⟩)) _ rfl rfl (by kernel_rfl) (by kernel_rfl) (by kernel_rfl) (fun _ _ _ h => h) rfl (fun w' hS => by go_simp) hHeld0 rfl ?_
  refine take_pure 2 14 (Value.pointer (some ⟨g, 0, none⟩)) _ rfl rfl (by kernel_rfl) (by kernel_rfl) (by kernel_rfl) (fun _ _ _ h => h) rfl (fun w' hS => by go_simp) hHeld0 rfl ?_
  refine take_pure 3 15 (Value.pointer (some ⟨g, 1, none⟩)) _ rfl rfl (by kernel_rfl) (by kernel_rfl) (by kernel_rfl) (fun _ _ _ h => h) rfl (fun w' hS => by go_simp) hHeld0 rfl ?_
  refine take_pure 5 17 (Value.agg #[.int .i64 f1, .int .i64 f2]) _ rfl rfl (by kernel_rfl) (by kernel_rfl) (by kernel_rfl) (fun _ _ _ h => h) rfl (fun w' hS => by have q0 := hS.cell (i := 0) rfl; have q1 := hS.cell (i := 1) rfl; go_simp) hHeld0 rfl ?_
  refine wpAnyH_ready (rs := [4, 6]) (by kernel_rfl) (by simp) ?_
  have kA : W0.drew.cell? ⟨g, 1, none⟩ = some (.slice Av P.length cv) := HW.out.blk.cell (i := 1) rfl
  have hb1 := below1 W0 (.cells #[.int .i64 f1, .int .i64 f2] 89)
  have hB1 : Blk (W0.alloc (.cells #[.int .i64 f1, .int .i64 f2] 89)).drew g [vd, .slice Av P.length cv, .int .i64 ((fieldBits P).length : Int)] 87 := HW.out.blk.below hb1.drew (by omega)
  have hF1 : Blk (W0.alloc (.cells #[.int .i64 f1, .int .i64 f2] 89)).drew w.heap.size [.int .i64 f1, .int .i64 f2] 89 := HBv.out.below hb1.drew (by omega)
  have hO1 : Owns B [fieldRow (.slice Av P.length cv) P, byteRow vd D] (W0.alloc (.cells #[.int .i64 f1, .int .i64 f2] 89)).drew := (HW.out.own.swap.below hb1).drew
  have hsn : Seen (W0.alloc (.cells #[.int .i64 f1, .int .i64 f2] 89)).drew (W0.heap.size + 1) (some ⟨w.heap.size + 1, 0, none⟩) (pairCells [(f1, f2)]) := by
    have h9 : Seen (W0.alloc (.cells #[.int .i64 f1, .int .i64 f2] 89)).drew (W0.heap.size + 1) (some ⟨W0.heap.size, 0, none⟩) (pairCells [(f1, f2)]) := Seen.new W0 (pairCells [(f1, f2)]) _ _ (Nat.lt_succ_self _)
    rw [hz0] at h9
    rw [hz0]
    exact h9
  have hzW : (W0.alloc (.cells #[.int .i64 f1, .int .i64 f2] 89)).drew.heap.size = W0.heap.size + 1 := by show (W0.alloc _).heap.size = _; simp
  have kB := hB1.cell (i := 1) (v := .slice Av P.length cv) rfl
  have hoW : Only (fun _ => False) w (W0.alloc (.cells #[.int .i64 f1, .int .i64 f2] 89)).drew := (Only.of_below Hb0.out (Nat.le_refl _) : Only (fun _ => False) w W0).trans (Only.of_below hb1.drew (Nat.le_refl _) : Only (fun _ => False) _ _) (fun q h => h.elim)
  refine AllReadyH.cons rfl (fun K hK => ?_) (AllReadyH.cons rfl (fun K hK => ?_) AllReadyH.nil)
  · go_simp
    refine hK.out _ _ hHeld0 (fun hHeld1 => ?_)
    clear hK K
    refine wpAnyH_ready (rs := [6]) (by kernel_rfl) (by simp) ?_
    refine AllReadyH.cons rfl (fun K hK => ?_) AllReadyH.nil
    go_simp
    refine hK.out _ _ hF1 (fun hHeld2 => ?_)
    clear hK K
    refine wpAnyH_ready (rs := [7]) (by kernel_rfl) (by simp) ?_
    refine AllReadyH.cons rfl (fun K hK => ?_) AllReadyH.nil
    refine step_ownV2 _ rfl (.tmp 16) (.tmp 18) 85 rfl B 89 2 16 elem_field (.slice Av P.length cv) P.length (pairCells P) [byteRow vd D] rfl hO1 (W0.heap.size + 1) (some ⟨w.heap.size + 1, 0, none⟩) 1 1 (pairCells [(f1, f2)]) rfl hsn (by simp [pairCells]) (by intro u hu; simp [pairCells] at hu; rcases hu with rfl | rfl <;> rfl) (by unfold maxLen; omega) (by omega) ?_
    intro vp' w3 hO3 hg3 hb3 hw3
    obtain ⟨A', c', hv', _, _, _⟩ := hO3.seen (List.mem_cons_self ..)
    simp only at hv'
    subst hv'
    rw [hzW] at hw3
    have hB3 := hB1.below hb3 hlow
    have hF3 := hF1.kept hg3 Hnf.out
    refine hK.out _ _ hF3 (fun hHeld3 => ?_)
    clear hK K hHeld2 hHeld1
    refine take_pure 8 20 (Value.pointer (some ⟨g, 0, none⟩)) _ rfl rfl (by kernel_rfl) (by kernel_rfl) (by kernel_rfl) (fun _ _ _ h => h) rfl (fun w' hS => by go_simp) hHeld3 rfl ?_
    refine take_pure 9 21 (Value.pointer (some ⟨g, 1, none⟩)) _ rfl rfl (by kernel_rfl) (by kernel_rfl) (by kernel_rfl) (fun _ _ _ h => h) rfl (fun w' hS => by go_simp) hHeld3 rfl ?_
    refine wpAnyH_ready (rs := [10]) (by kernel_rfl) (by simp) ?_
    refine AllReadyH.cons rfl (fun K hK => ?_) AllReadyH.nil
    have k3 := hB3.cell (i := 1) (v := .slice Av P.length cv) rfl
    have z3 := hB3.frozen 1
    have hg4 := grown_setCell w3 g 1 (.slice A' (P.length + 1) c')
    have hB4 : Blk (w3.setCell ⟨g, 1, none⟩ (.slice A' (P.length + 1) c')) g [vd, .slice A' (P.length + 1) c', .int .i64 ((fieldBits P).length : Int)] 87 := hB3.set 1 (.slice A' (P.length + 1) c')
    have hF4 := hF3.kept hg4 (by simp; omega)
    have hO4 : Owns B [fieldRow (.slice A' (P.length + 1) c') (P ++ [(f1, f2)]), byteRow vd D] (w3.setCell ⟨g, 1, none⟩ (.slice A' (P.length + 1) c')) := by rw [← fieldRow_append]; exact hO3.setCell (a := ⟨g, 1, none⟩) hlow _
    have hon1 : Only (wrF g vd (.slice Av P.length cv)) w (w3.setCell ⟨g, 1, none⟩ (.slice A' (P.length + 1) c')) := (((hoW.mono (fun q h => h.elim) : Only (wrF g vd (.slice Av P.length cv)) w _).trans (Only.of_grown hg3 (F := wrF g vd (.slice Av P.length cv)) (fun q e => .inl (.inr (.inr e)))) (fun q h => .inl h) : Only (wrF g vd (.slice Av P.length cv)) w w3)).trans (Only.of_grown hg4 (F := wrF g vd (.slice Av P.length cv)) (fun q e => by injection e with e; exact .inl (.inl e.symm))) (fun q h => .inl h)
    go_simp
    refine hK.out _ _ hF4 (fun hHeld4 => ?_)
    clear hK K hHeld3
    refine wpAnyH_done (by kernel_rfl) ?_ _
    clear hHeld4 hHeld0 kA kB hb1 hB1 hF1 hO1 hsn hzW hoW hB3 hF3 k3 z3 hg4 hO3 hg3 hb3
    rw [hz0] at hw3
    clear hz0
    have hzz := hon1.size
    obtain ⟨W4, hW4⟩ : ∃ W4, W4 = w3.setCell ⟨g, 1, none⟩ (.slice A' (P.length + 1) c') := ⟨_, rfl⟩
    rw [← hW4] at hB4 hF4 hO4 hon1 hzz ⊢
    have hB4' := hB4
    clear hB4 hW4
    have hlen : (fieldBits (P ++ [(f1, f2)])).length = (fieldBits P).length + f1.toNat := by rw [fieldBits_snoc, List.length_append, bitsN_length]
    have hf0 := Hf.out.1
    simp only at hf0
    have hfb := fieldBits_len_le P Hh.out.ok
    have hsum : IntKind.i64.wrap (((fieldBits P).length : Int) + f1) = ((fieldBits (P ++ [(f1, f2)])).length : Int) := by rw [IntKind.wrap_i64, hlen]; omega
    have c2 := hB4'.cell (i := 2) (v := .int .i64 ((fieldBits P).length : Int)) rfl
    have z2 := hB4'.frozen 2
    have d0 := hF4.cell (i := 0) (v := .int .i64 f1) rfl
    obtain ⟨N2, hN2⟩ : ∃ N2 : Int, N2 = ((fieldBits (P ++ [(f1, f2)])).length : Int) := ⟨_, rfl⟩
    have HN2 := veil hN2
    rw [← hN2] at hsum
    have HB4 := veil hB4'
    have HO4 := veil hO4
    have Hon1 := veil hon1
    have hP2 : (P ++ [(f1, f2)]).length ≤ 20000 := by rw [List.length_append]; simp; omega
    clear hlen hN2 hB4' hO4 hon1 hF4
    go_upto_region 4 with fail
    go_still_tail 9, (by kernel_rfl)
    repeat still_step
    try refine wpStill_nil ?_
    change wpList _ _ _ _ _ W4.drew
    go_wp2_with fail
    go_end0
    refine ⟨rfl, .slice A' (P.length + 1) c', ⟨?_, ?_, hlow, Hh.out.byt, ?_, hP2⟩, ?_, ?_⟩
    · rw [← HN2.out]; exact HB4.out.set 2 (.int .i64 N2)
    · exact (HO4.out.setCell (a := ⟨g, 2, none⟩) hlow _).swap.drew
    · intro f hf
      rcases List.mem_append.1 hf with hf | hf
      · exact Hh.out.ok f hf
      · rw [List.mem_singleton.1 hf]; exact Hf.out
    · exact (Hon1.out.trans (Only.of_grown (grown_setCell W4 g 2 (.int .i64 N2)) (F := wrF g vd (.slice Av P.length cv)) (fun q e => by injection e with e; exact .inl (.inl e.symm))) (fun q h => .inl h)).trans (Only.of_below ((Below.refl _ _).drew) (Nat.le_refl _) : Only (fun _ => False) _ _) (fun q h => h.elim)
    · intro q hq
      rcases hq with h | h | h
      · exact .inl (.inl h)
      · exact .inl (.inr (.inl h))
      · rcases hw3 with h2 | h2
        · rw [h2] at h; exact .inl (.inr (.inr h))
        · rw [h2] at h; injection h with h; right; omega
  · go_simp
    refine hK.out _ _ hF1 (fun hHeld1 => ?_)
    clear hK K
    refine wpAnyH_ready (rs := [4]) (by kernel_rfl) (by simp) ?_
    refine AllReadyH.cons rfl (fun K hK => ?_) AllReadyH.nil
    go_simp
    refine hK.out _ _ hF1 (fun hHeld2 => ?_)
    clear hK K
    refine wpAnyH_ready (rs := [7]) (by kernel_rfl) (by simp) ?_
    refine AllReadyH.cons rfl (fun K hK => ?_) AllReadyH.nil
    refine step_ownV2 _ rfl (.tmp 16) (.tmp 18) 85 rfl B 89 2 16 elem_field (.slice Av P.length cv) P.length (pairCells P) [byteRow vd D] rfl hO1 (W0.heap.size + 1) (some ⟨w.heap.size + 1, 0, none⟩) 1 1 (pairCells [(f1, f2)]) rfl hsn (by simp [pairCells]) (by intro u hu; simp [pairCells] at hu; rcases hu with rfl | rfl <;> rfl) (by unfold maxLen; omega) (by omega) ?_
    intro vp' w3 hO3 hg3 hb3 hw3
    obtain ⟨A', c', hv', _, _, _⟩ := hO3.seen (List.mem_cons_self ..)
    simp only at hv'
    subst hv'
    rw [hzW] at hw3
    have hB3 := hB1.below hb3 hlow
    have hF3 := hF1.kept hg3 Hnf.out
    refine hK.out _ _ hF3 (fun hHeld3 => ?_)
    clear hK K hHeld2 hHeld1
    refine take_pure 8 20 (Value.pointer (some ⟨g, 0, none⟩)) _ rfl rfl (by kernel_rfl) (by kernel_rfl) (by kernel_rfl) (fun _ _ _ h => h) rfl (fun w' hS => by go_simp) hHeld3 rfl ?_
    refine take_pure 9 21 (Value.pointer (some ⟨g, 1, none⟩)) _ rfl rfl (by kernel_rfl) (by kernel_rfl) (by kernel_rfl) (fun _ _ _ h => h) rfl (fun w' hS => by go_simp) hHeld3 rfl ?_
    refine wpAnyH_ready (rs := [10]) (by kernel_rfl) (by simp) ?_
    refine AllReadyH.cons rfl (fun K hK => ?_) AllReadyH.nil
    have k3 := hB3.cell (i := 1) (v := .slice Av P.length cv) rfl
    have z3 := hB3.frozen 1
    have hg4 := grown_setCell w3 g 1 (.slice A' (P.length + 1) c')
    have hB4 : Blk (w3.setCell ⟨g, 1, none⟩ (.slice A' (P.length + 1) c')) g [vd, .slice A' (P.length + 1) c', .int .i64 ((fieldBits P).length : Int)] 87 := hB3.set 1 (.slice A' (P.length + 1) c')
    have hF4 := hF3.kept hg4 (by simp; omega)
    have hO4 : Owns B [fieldRow (.slice A' (P.length + 1) c') (P ++ [(f1, f2)]), byteRow vd D] (w3.setCell ⟨g, 1, none⟩ (.slice A' (P.length + 1) c')) := by rw [← fieldRow_append]; exact hO3.setCell (a := ⟨g, 1, none⟩) hlow _
    have hon1 : Only (wrF g vd (.slice Av P.length cv)) w (w3.setCell ⟨g, 1, none⟩ (.slice A' (P.length + 1) c')) := (((hoW.mono (fun q h => h.elim) : Only (wrF g vd (.slice Av P.length cv)) w _).trans (Only.of_grown hg3 (F := wrF g vd (.slice Av P.length cv)) (fun q e => .inl (.inr (.inr e)))) (fun q h => .inl h) : Only (wrF g vd (.slice Av P.length cv)) w w3)).trans (Only.of_grown hg4 (F := wrF g vd (.slice Av P.length cv)) (fun q e => by injection e with e; exact .inl (.inl e.symm))) (fun q h => .inl h)
    go_simp
    refine hK.out _ _ hF4 (fun hHeld4 => ?_)
    clear hK K hHeld3
    refine wpAnyH_done (by kernel_rfl) ?_ _
    clear hHeld4 hHeld0 kA kB hb1 hB1 hF1 hO1 hsn hzW hoW hB3 hF3 k3 z3 hg4 hO3 hg3 hb3
    rw [hz0] at hw3
    clear hz0
    have hzz := hon1.size
    obtain ⟨W4, hW4⟩ : ∃ W4, W4 = w3.setCell ⟨g, 1, none⟩ (.slice A' (P.length + 1) c') := ⟨_, rfl⟩
    rw [← hW4] at hB4 hF4 hO4 hon1 hzz ⊢
    have hB4' := hB4
    clear hB4 hW4
    have hlen : (fieldBits (P ++ [(f1, f2)])).length = (fieldBits P).length + f1.toNat := by rw [fieldBits_snoc, List.length_append, bitsN_length]
    have hf0 := Hf.out.1
    simp only at hf0
    have hfb := fieldBits_len_le P Hh.out.ok
    have hsum : IntKind.i64.wrap (((fieldBits P).length : Int) + f1) = ((fieldBits (P ++ [(f1, f2)])).length : Int) := by rw [IntKind.wrap_i64, hlen]; omega
    have c2 := hB4'.cell (i := 2) (v := .int .i64 ((fieldBits P).length : Int)) rfl
    have z2 := hB4'.frozen 2
    have d0 := hF4.cell (i := 0) (v := .int .i64 f1) rfl
    obtain ⟨N2, hN2⟩ : ∃ N2 : Int, N2 = ((fieldBits (P ++ [(f1, f2)])).length : Int) := ⟨_, rfl⟩
    have HN2 := veil hN2
    rw [← hN2] at hsum
    have HB4 := veil hB4'
    have HO4 := veil hO4
    have Hon1 := veil hon1
    have hP2 : (P ++ [(f1, f2)]).length ≤ 20000 := by rw [List.length_append]; simp; omega
    clear hlen hN2 hB4' hO4 hon1 hF4
    go_upto_region 4 with fail
    go_still_tail 9, (by kernel_rfl)
    repeat still_step
    try refine wpStill_nil ?_
    change wpList _ _ _ _ _ W4.drew
    go_wp2_with fail
    go_end0
    refine ⟨rfl, .slice A' (P.length + 1) c', ⟨?_, ?_, hlow, Hh.out.byt, ?_, hP2⟩, ?_, ?_⟩
    · rw [← HN2.out]; exact HB4.out.set 2 (.int .i64 N2)
    · exact (HO4.out.setCell (a := ⟨g, 2, none⟩) hlow _).swap.drew
    · intro f hf
      rcases List.mem_append.1 hf with hf | hf
      · exact Hh.out.ok f hf
      · rw [List.mem_singleton.1 hf]; exact Hf.out
    · exact (Hon1.out.trans (Only.of_grown (grown_setCell W4 g 2 (.int .i64 N2)) (F := wrF g vd (.slice Av P.length cv)) (fun q e => by injection e with e; exact .inl (.inl e.symm))) (fun q h => .inl h)).trans (Only.of_below ((Below.refl _ _).drew) (Nat.le_refl _) : Only (fun _ => False) _ _) (fun q h => h.elim)
    · intro q hq
      rcases hq with h | h | h
      · exact .inl (.inl h)
      · exact .inl (.inr (.inl h))
      · rcases hw3 with h2 | h2
        · rw [h2] at h; exact .inl (.inr (.inr h))
        · rw [h2] at h; injection h with h; right; omega
end Go.Proofs.YtddkhkpdbjjboaaGreat

/- seg's writer: flush, its contract. -/
namespace Go.Proofs.YtddkhkpdbjjboaaGreat
open Go.RowKit
set_option linter.unusedVariables false
set_option linter.unusedSimpArgs false
set_option maxRecDepth 100000

set_option maxRecDepth 100000 in
set_option maxHeartbeats 4000000 in
theorem flush_any (B g : Nat) (D : List Int) (P : List (Int × Int)) (vd vp : Value) (w : World) (h : Wr B g D P vd vp w) (hD : D.length ≤ 1000000) :
    Calls Tryz.prog 68 #[.pointer (some ⟨g, 0, none⟩)] w fun e w' => e = .returned (.tuple #[]) ∧ ∃ D' P' vd' vp', Wr B g D' P' vd' vp' w' ∧ unpack D' ++ fieldBits P' = unpack D ++ fieldBits P ∧ P'.length ≤ 1 ∧ Only (wrF g vd vp) w w' ∧ ∀ q, wrF g vd' vp' q → wrF g vd vp q ∨ w.heap.size ≤ q := by
  have hgl := h.blk.lt
  have hlow := h.low
  have hbase := h.own.base
  obtain ⟨Av, cv, hv, hsv, hcv, hmv⟩ := h.own.seen (List.mem_cons_of_mem _ (List.mem_cons_self ..))
  simp only [fieldRow] at hv hcv hsv
  obtain ⟨Ad, cd, hvd, _, _, _⟩ := h.own.seen (List.mem_cons_self ..)
  simp only [byteRow, intRow] at hvd
  subst hv
  subst hvd
  have hw0 : writeErr P = 0 := by unfold writeErr; rw [if_neg (by have := h.few; omega), if_pos h.ok]
  have HC := veil (write_any Av cv w.heap.size P w hsv (Nat.le_refl _) (by have := h.few; unfold maxLen; omega))
  have k1 := h.blk.cell (i := 1) (v := .slice Av P.length cv) rfl
  have Hh := veil h
  rw [hw0] at HC
  have hfb := fieldBits_len_le P h.ok
  have hfew := h.few
  clear h hsv hcv hmv
  go_enter Tryz.func68, Tryz.ntmps68
  go_wp2_with fail
  refine HC.out.mono ?_
  rintro e w2 ⟨v2, out, rfl, hown2, hW2, hb2⟩
  obtain ⟨hby, p, hp, hunp⟩ := hW2.2 hw0
  obtain ⟨hq8, hql, htk⟩ := bits_take_done hunp hp
  obtain ⟨A2, c2, hv2, hs2, hc2, hm2⟩ := own_form' hown2
  subst hv2
  have HOut := veil (Owns.one (r := byteRow (.slice A2 out.length c2) out) hb2.size hown2)
  have hvdl := fun q hq => (Hh.out.own.head.lt q hq).2
  have Hvdl := veil hvdl
  clear hvdl
  have hB2 := Hh.out.blk.below hb2 hgl
  have hO2 := Hh.out.own.below hb2
  have hon2 : Only (fun _ => False) w w2 := Only.of_below hb2 (Nat.le_refl _)
  have hz2 := hb2.size
  have hunp' := hunp
  obtain ⟨N, hN⟩ : ∃ N, N = (fieldBits P).length := ⟨_, rfl⟩
  rw [← hN] at hB2 hq8 hql htk hfb
  obtain ⟨q, r, hNq, hr8⟩ : ∃ q r, N = 8 * q + r ∧ r < 8 := ⟨N / 8, N % 8, by omega, by omega⟩
  have hq : N / 8 = q := by omega
  have hr : N % 8 = r := by omega
  rw [hq] at hq8 hql htk
  have e1 : (N : Int) / 8 = (q : Int) := by omega
  have e2 : (N : Int) % 8 = (r : Int) := by omega
  have e3 : (N : Int).tmod 8 = (r : Int) := by rw [Int.tmod_eq_emod_of_nonneg (by omega)]; omega
  have e4 : (N : Int).tdiv 8 = (q : Int) := by rw [Int.tdiv_eq_ediv_of_nonneg (by omega)]; omega
  have e5 : IntKind.i64.wrap (q : Int) = (q : Int) := by rw [IntKind.wrap_i64]; omega
  have k2 := hB2.cell (i := 2) (v := .int .i64 (N : Int)) rfl
  have HB2 := veil hB2; have HO2 := veil hO2; have Hon2 := veil hon2; have Hunp := veil hunp; have Hby := veil hby; have Htk := veil htk; have Hs2 := veil hs2; have HN := veil hN; have HNq := veil hNq
  clear HC hown2 hW2 hb2 hB2 hO2 hon2 hunp hunp' hby htk hs2 k1 hN hNq hw0 hq hr
  go_wp2_with fail
  go_quiet (fail)
  have k0 := HB2.out.cell (i := 0) (v := .slice Ad D.length cd) rfl
  have hcut := fun u => run_cutB_to A2 out.length c2 q (by omega) u
  have hW3 : Blk (w2.drewN nq) g [.slice Ad D.length cd, .slice Av P.length cv, .int .i64 (N : Int)] 87 := HB2.out
  obtain ⟨w3, hw3⟩ : ∃ w3, w3 = w2.drewN nq := ⟨_, rfl⟩
  rw [← hw3] at hW3 ⊢
  have hO3 : Owns B [byteRow (.slice Ad D.length cd) D, fieldRow (.slice Av P.length cv) P] w3 := by rw [hw3]; exact HO2.out.drewN _
  have hs3 : Seen w3 w2.heap.size A2 (ints .u8 (out.take q)) := by rw [hw3]; exact (Hs2.out.takeInts q)
  have hon3 : Only (fun _ => False) w w3 := by rw [hw3]; exact Hon2.out.trans (Only.of_below ((Below.refl _ _).drewN nq) (Nat.le_refl _) : Only (fun _ => False) _ _) (fun q h => h.elim)
  have k0 := hW3.cell (i := 0) (v := .slice Ad D.length cd) rfl
  have hs4 : Seen w2 w2.heap.size A2 (ints .u8 out) := Hs2.out
  have hs5 : Seen w3 w2.heap.size A2 (ints .u8 out) := by rw [hw3]; exact hs4
  have hz3 : w3.heap.size = w2.heap.size := by rw [hw3]; rfl
  have HoutX : Owns w.heap.size [byteRow (.slice A2 out.length c2) out] w3.drew := by rw [hw3]; exact (HOut.out.drewN _).drew
  clear hw3 HB2 HO2 Hon2 Hs2 k2 hs4
  go_upto_region 2 with fail
  refine wp_region_held_drew (S := fun _ => True) (by kernel_rfl) trivial (fun hHeld0 => ?_)
  refine take_pure 0 24 (Value.pointer (some ⟨g, 0, none⟩)) _ rfl rfl (by kernel_rfl) (by kernel_rfl) (by kernel_rfl) (fun _ _ _ h => h) rfl (fun w' hS => by go_simp) hHeld0 rfl ?_
  refine take_pure 1 25 (Value.pointer (some ⟨g, 0, none⟩)) _ rfl rfl (by kernel_rfl) (by kernel_rfl) (by kernel_rfl) (fun _ _ _ h => h) rfl (fun w' hS => by go_simp) hHeld0 rfl ?_
  refine take_pure 2 26 (Value.pointer (some ⟨g, 0, none⟩)) _ rfl rfl (by kernel_rfl) (by kernel_rfl) (by kernel_rfl) (fun _ _ _ h => h) rfl (fun w' hS => by go_simp) hHeld0 rfl ?_
  refine take_pure 3 27 (Value.pointer (some ⟨g, 0, none⟩)) _ rfl rfl (by kernel_rfl) (by kernel_rfl) (by kernel_rfl) (fun _ _ _ h => h) rfl (fun w' hS => by go_simp) hHeld0 rfl ?_
  refine take_pure 5 29 (Value.slice A2 out.length c2) _ rfl rfl (by kernel_rfl) (by kernel_rfl) (by kernel_rfl) (fun _ _ _ h => h) rfl (fun w' hS => by go_simp) hHeld0 rfl ?_
  refine take_pure 6 30 (Value.int .i64 (q : Int)) _ rfl rfl (by kernel_rfl) (by kernel_rfl) (by kernel_rfl) (fun _ _ _ h => h) rfl (fun w' hS => by go_simp) hHeld0 rfl ?_
  refine take_pure 7 31 (Value.slice A2 q c2) _ rfl rfl (by kernel_rfl) (by kernel_rfl) (by kernel_rfl) (fun _ _ _ h => h) rfl (fun w' hS => by have := hcut w'; go_simp) hHeld0 rfl ?_
  refine wpAnyH_ready (rs := [4]) (by kernel_rfl) (by simp) ?_
  refine AllReadyH.cons rfl (fun K hK => ?_) AllReadyH.nil
  have k0' : w3.drew.cell? ⟨g, 0, none⟩ = some (.slice Ad D.length cd) := k0
  go_simp
  refine hK.out _ _ trivial (fun hHeld1 => ?_)
  clear hK K
  refine wpAnyH_ready (rs := [8]) (by kernel_rfl) (by simp) ?_
  refine AllReadyH.cons rfl (fun K hK => ?_) AllReadyH.nil
  obtain ⟨w4, hw4⟩ : ∃ w4, w4 = w3.drew := ⟨_, rfl⟩
  have hW4 : Blk w4 g [.slice Ad D.length cd, .slice Av P.length cv, .int .i64 (N : Int)] 87 := by rw [hw4]; exact hW3
  have hO4 : Owns B [byteRow (.slice Ad D.length cd) D, fieldRow (.slice Av P.length cv) P] w4 := by rw [hw4]; exact hO3.drew
  have hs4 : Seen w4 w2.heap.size A2 (ints .u8 (out.take q)) := by rw [hw4]; exact hs3
  have hs6 : Seen w4 w2.heap.size A2 (ints .u8 out) := by rw [hw4]; exact hs5
  have hon4 : Only (fun _ => False) w w4 := by rw [hw4]; exact hon3.trans (Only.of_below ((Below.refl _ _).drew) (Nat.le_refl _) : Only (fun _ => False) _ _) (fun q h => h.elim)
  have hz4 : w4.heap.size = w2.heap.size := by rw [hw4]; exact hz3
  have Hw4 := veil hw4
  have HOut4 : Hid (Owns w.heap.size [byteRow (.slice A2 out.length c2) out] w4) := by show Owns _ _ _; rw [hw4]; exact HoutX
  have hlt : (ints .u8 (out.take q)).length = q * 1 := by rw [ints_length, List.length_take]; omega
  have hm1 : D.length + q ≤ maxLen := by unfold maxLen; omega
  have hm2 : (D.length + q) * 1 ≤ 140737488355328 := by omega
  have HW4 := veil hW4; have Hon4 := veil hon4; have Hs6 := veil hs6
  have Hlt := veil hlt
  clear hw4 hW3 hO3 hs3 hs5 hon3 hz3 k0 hW4 hon4 hs6 hlt
  refine step_ownV2 _ rfl (.tmp 28) (.tmp 31) 28 rfl B 5 1 1 elem_byte (.slice Ad D.length cd) D.length (ints .u8 D) [fieldRow (.slice Av P.length cv) P] rfl (by rw [← Hw4.out]; exact hO4) w2.heap.size A2 q c2 (ints .u8 (out.take q)) rfl (by rw [← Hw4.out]; exact hs4) Hlt.out ints_one hm1 hm2 ?_
  intro vd' w5 hO5 hg5 hb5 hw5
  rw [← Hw4.out] at hg5 hb5 hw5
  obtain ⟨Ad', cd', hv5, _, _, _⟩ := hO5.seen (List.mem_cons_self ..)
  simp only at hv5
  subst hv5
  have hB5 := HW4.out.below hb5 hlow
  refine hK.out _ _ trivial (fun hHeld2 => ?_)
  clear hK K hHeld1 hHeld0
  refine take_pure 9 33 (Value.pointer (some ⟨g, 0, none⟩)) _ rfl rfl (by kernel_rfl) (by kernel_rfl) (by kernel_rfl) (fun _ _ _ h => h) rfl (fun w' hS => by go_simp) hHeld2 rfl ?_
  refine take_pure 10 34 (Value.pointer (some ⟨g, 0, none⟩)) _ rfl rfl (by kernel_rfl) (by kernel_rfl) (by kernel_rfl) (fun _ _ _ h => h) rfl (fun w' hS => by go_simp) hHeld2 rfl ?_
  refine wpAnyH_ready (rs := [11]) (by kernel_rfl) (by simp) ?_
  refine AllReadyH.cons rfl (fun K hK => ?_) AllReadyH.nil
  have k5 := hB5.cell (i := 0) (v := .slice Ad D.length cd) rfl
  have z5 := hB5.frozen 0
  go_simp
  refine hK.out _ _ trivial (fun hHeld3 => ?_)
  clear hK K hHeld2
  refine wpAnyH_done (by kernel_rfl) ?_ _
  have hg6 := grown_setCell w5 g 0 (.slice Ad' (D.length + q) cd')
  have hB6 : Blk (w5.setCell ⟨g, 0, none⟩ (.slice Ad' (D.length + q) cd')) g [.slice Ad' (D.length + q) cd', .slice Av P.length cv, .int .i64 (N : Int)] 87 := hB5.set 0 _
  have hO6 : Owns B [byteRow (.slice Ad' (D.length + q) cd') (D ++ out.take q), fieldRow (.slice Av P.length cv) P] (w5.setCell ⟨g, 0, none⟩ (.slice Ad' (D.length + q) cd')) := by
    have e : byteRow (.slice Ad' (D.length + q) cd') (D ++ out.take q) = ⟨5, 1, .slice Ad' (D.length + q) cd', D.length + q, ints .u8 D ++ ints .u8 (out.take q)⟩ := by
      simp only [byteRow, intRow, ints_append]
      congr 1
      rw [List.length_append, List.length_take]; omega
    rw [e]
    exact hO5.setCell (a := ⟨g, 0, none⟩) hlow _
  have hO7 : Owns w.heap.size [byteRow (.slice A2 out.length c2) out] (w5.setCell ⟨g, 0, none⟩ (.slice Ad' (D.length + q) cd')) :=
    (HOut4.out.only (Only.of_grown hg5 (F := fun x => (Value.slice Ad D.length cd).ownBlock = some x) (fun x e => .inl e)) (fun r hr x hx hFx => by
      rw [List.mem_singleton.1 hr] at hx
      have h1 := Hvdl.out x hFx
      have h2 := (HOut4.out.head.lt x hx).1
      omega)).setCell (a := ⟨g, 0, none⟩) hgl _
  have hon6 : Only (wrF g (.slice Ad D.length cd) (.slice Av P.length cv)) w (w5.setCell ⟨g, 0, none⟩ (.slice Ad' (D.length + q) cd')) :=
    (((Hon4.out.mono (fun q h => h.elim) : Only (wrF g (.slice Ad D.length cd) (.slice Av P.length cv)) w w4).trans (Only.of_grown hg5 (F := wrF g (.slice Ad D.length cd) (.slice Av P.length cv)) (fun q e => .inl (.inr (.inl e)))) (fun q h => .inl h) : Only (wrF g (.slice Ad D.length cd) (.slice Av P.length cv)) w w5)).trans (Only.of_grown hg6 (F := wrF g (.slice Ad D.length cd) (.slice Av P.length cv)) (fun q e => by injection e with e; exact .inl (.inl e.symm))) (fun q h => .inl h)
  clear hHeld3 hO5 hg5 hb5 hB5 k5 z5 hg6 hO4 hs4 HW4 Hon4 Hs6 Hw4 HOut4 HoutX k0 k0' HOut
  rw [hz4] at hw5
  obtain ⟨w6, hw6⟩ : ∃ w6, w6 = w5.setCell ⟨g, 0, none⟩ (.slice Ad' (D.length + q) cd') := ⟨_, rfl⟩
  rw [← hw6] at hB6 hO6 hO7 hon6 ⊢
  clear hw6
  have m1 := hB6.cell (i := 1) (v := .slice Av P.length cv) rfl
  have m2 := hB6.cell (i := 2) (v := .int .i64 (N : Int)) rfl
  have y1 := hB6.frozen 1
  have y2 := hB6.frozen 2
  have hB8 : Blk ((w6.setCell ⟨g, 1, none⟩ (.slice none 0 0)).setCell ⟨g, 2, none⟩ (.int .i64 0)) g [.slice Ad' (D.length + q) cd', .slice none 0 0, .int .i64 0] 87 := (hB6.set 1 _).set 2 _
  have hg8 : w6.grownBy ((w6.setCell ⟨g, 1, none⟩ (.slice none 0 0)).setCell ⟨g, 2, none⟩ (.int .i64 0)) (some g) := (grown_setCell w6 g 1 _).trans (grown_setCell _ g 2 _)
  have HB8 := veil hB8; have Hg8 := veil hg8; have HO6 := veil hO6; have HO7 := veil hO7; have Hon6 := veil hon6
  clear hB8 hg8 hO6 hO7 hon6 hB6
  go_upto_region 4 with fail
  clear m1 m2 y1 y2
  obtain ⟨w8, hw8⟩ : ∃ w8, w8 = (w6.setCell ⟨g, 1, none⟩ (.slice none 0 0)).setCell ⟨g, 2, none⟩ (.int .i64 0) := ⟨_, rfl⟩
  rw [← hw8] at HB8 Hg8 ⊢
  clear hw8
  have hO8 := HO6.out.kept Hg8.out hlow
  have hOut8 := HO7.out.kept Hg8.out hgl
  have hon8 : Only (wrF g (.slice Ad D.length cd) (.slice Av P.length cv)) w w8 := Hon6.out.trans (Only.of_grown Hg8.out (F := wrF g (.slice Ad D.length cd) (.slice Av P.length cv)) (fun q e => by injection e with e; exact .inl (.inl e.symm))) (fun q h => .inl h)
  have hWr8 : Wr B g (D ++ out.take q) [] (.slice Ad' (D.length + q) cd') (.slice none 0 0) w8 :=
    ⟨HB8.out, (hO8.swap.tail.fresh 89 2).swap, hlow, by
      intro x hx
      rcases List.mem_append.1 hx with hx | hx
      · exact Hh.out.byt x hx
      · exact Hby.out x (List.mem_of_mem_take hx), by simp, by simp⟩
  have hsub8 : ∀ x, wrF g (.slice Ad' (D.length + q) cd') (.slice none 0 0) x → wrF g (.slice Ad D.length cd) (.slice Av P.length cv) x ∨ w.heap.size ≤ x := by
    intro x hx
    rcases hx with h | h | h
    · exact .inl (.inl h)
    · rcases hw5 with h2 | h2
      · rw [h2] at h; exact .inl (.inr (.inl h))
      · rw [h2] at h; injection h with h; right; omega
    · cases h
  have HWr8 := veil hWr8; have Hsub8 := veil hsub8; have Hon8 := veil hon8
  have hz8 := hon8.size
  obtain ⟨A9, c9, hv9, hs9, _, _⟩ := hOut8.seen (List.mem_cons_self ..)
  simp only [byteRow, intRow] at hv9 hs9
  obtain ⟨rfl, rfl⟩ : A2 = A9 ∧ c2 = c9 := by simpa using hv9
  clear hO8 hOut8 hon8 hWr8 hsub8 HO6 HO7 Hon6 HB8 Hg8 hv9 hw5
  have Hs9 := veil hs9
  clear hs9
  by_cases hr0 : r = 0
  · have hrz : ¬ (0 : Int) < (r : Int) := by omega
    have hall : (fieldBits P).take (8 * q) = fieldBits P := List.take_of_length_le (by rw [← HN.out, HNq.out]; omega)
    have hbits : unpack (D ++ out.take q) ++ fieldBits [] = unpack D ++ fieldBits P := by rw [unpack_append, Htk.out, hall]; simp [fieldBits]
    have Hbits := veil hbits
    clear hall hbits hr0
    go_wp2_with fail
    go_end0
    exact ⟨rfl, _, _, _, _, HWr8.out, Hbits.out, by simp, Hon8.out, Hsub8.out⟩
  · have hrz : (0 : Int) < (r : Int) := by omega
    have hN8 : (fieldBits P).length / 8 = q := by rw [← HN.out, HNq.out]; omega
    have hN9 : (fieldBits P).length % 8 = r := by rw [← HN.out, HNq.out]; omega
    obtain ⟨x, hx, hx256, hxb, hxl⟩ := bits_left Hby.out Hunp.out hp (by rw [hN9]; omega)
    rw [hN8, hN9] at hxb
    rw [hN9] at hxl
    rw [hN8] at hx
    obtain ⟨g9, o9, x9, rfl, hg9, hx9, hc9⟩ := Hs9.out.int (k := q) (by have := (List.getElem?_eq_some_iff.1 hx).1; exact this)
    obtain rfl : x9 = (x : Int) := by rw [hx] at hx9; injection hx9 with h; exact h.symm
    obtain ⟨X, hX⟩ : ∃ X, X = x / 2 ^ (8 - r) := ⟨_, rfl⟩
    rw [← hX] at hxb hxl
    have hfit : okF ((r : Int), (X : Int)) := (okF_nat r X).2 ⟨by omega, hxl⟩
    have HA := veil (add_small B g (D ++ out.take q) [] (.slice Ad' (D.length + q) cd') (.slice none 0 0) (r : Int) (X : Int) w8 HWr8.out hfit (by simp))
    have hbits : unpack (D ++ out.take q) ++ fieldBits ([] ++ [((r : Int), (X : Int))]) = unpack D ++ fieldBits P := by
      rw [List.nil_append, unpack_append, Htk.out, List.append_assoc]
      congr 1
      simp only [fieldBits, List.flatMap_cons, List.flatMap_nil, List.append_nil, Int.toNat_natCast]
      rw [hxb]
      exact List.take_append_drop _ _
    have Hbits := veil hbits
    have HX := veil hX
    have hXl : X < 256 := by rw [hX]; exact Nat.lt_of_le_of_lt (Nat.div_le_self _ _) hx256
    have hql2 : q < out.length := (List.getElem?_eq_some_iff.1 hx).1
    clear hbits hfit hxb hx hx9 hN8 hN9 hX hcut
    go_wp2_with fail
    rw [show (x : Int) / 2 ^ (8 - r) = (X : Int) by rw [HX.out]; simp]
    refine HA.out.mono ?_
    rintro e w9 ⟨rfl, vp9, hW9, hon9, hsub9⟩
    have hon10 : Only (wrF g (.slice Ad D.length cd) (.slice Av P.length cv)) w w9 := Hon8.out.trans hon9 (fun q hq => Hsub8.out q hq)
    have hsub10 : ∀ x, wrF g (.slice Ad' (D.length + q) cd') vp9 x → wrF g (.slice Ad D.length cd) (.slice Av P.length cv) x ∨ w.heap.size ≤ x := fun x hx => by
      rcases hsub9 x hx with h | h
      · exact Hsub8.out x h
      · right; omega
    have HW9 := veil hW9; have Hon10 := veil hon10; have Hsub10 := veil hsub10
    clear hW9 hon9 hsub9 hon10 hsub10 HA HX
    go_wp2_with fail
    go_end0
    exact ⟨rfl, _, _, _, _, HW9.out, Hbits.out, by simp, Hon10.out, Hsub10.out⟩
end Go.Proofs.YtddkhkpdbjjboaaGreat
