/- Texts shared by the claims of this seat, in one. -/
import Derived.Test.YtbboakdfnjjddaaBd2
import Derived.Test.YtbboakdfnjjddaaBd3
import Derived.Lib.Builder
import Derived.Lib.UnsafeStr
import Derived.Lib.AppendStr
import Derived.Laws.Externs
import Derived.Laws.Strings3
import Derived.Test.YtbboakdfnjjddaaBd1
import Derived.Deep.WholeRow
import Derived.Laws.ResultCell
import Derived.Test.YtbboakdfnjjddaaRows
import Derived.BigRegion
import Derived.Laws.MakeOwn
/- strings.Builder, over digits: what the reference writes into one and takes out of it. -/
namespace Go.Proofs.Ytbboakdfnjjddaa
open Go.RowKit
set_option linter.unusedVariables false
set_option linter.unusedSimpArgs false
set_option maxRecDepth 100000

/-- A builder of the call's own, in block b, that holds these digits. -/
def Bld (B b : Nat) (l : List Bool) (w : World) : Prop :=
  ∃ p v, (p = .pointer none ∨ p = .pointer (some ⟨b, 0, none⟩)) ∧ B ≤ b ∧ w.heap[b]? = some (.cells #[p, v] 77 (0, 0)) ∧
    w.ownsRow B 5 1 v l.length (Lib.strCells (txt l)) ∧ v.ownBlock ≠ some b ∧ (l = [] → v = .slice none 0 0)

theorem bld_new (w : World) : Bld w.heap.size w.heap.size [] (w.alloc (.cells #[.pointer none, .slice none 0 0] 77)) :=
  ⟨_, _, .inl rfl, Nat.le_refl _, heap_alloc_new w _, World.ownsRow_nil _ _ _ _, by simp [Value.ownBlock], fun _ => rfl⟩
theorem Bld.lt {B b : Nat} {l : List Bool} {w : World} (h : Bld B b l w) : b < w.heap.size := by
  obtain ⟨p, v, _, _, hb, _⟩ := h
  rcases Nat.lt_or_ge b w.heap.size with h' | h'
  · exact h'
  · rw [Array.getElem?_eq_none h'] at hb; cases hb
theorem Bld.below {B b : Nat} {l : List Bool} {w w' : World} (h : Bld B b l w) (hb : Below w.heap.size w w') : Bld B b l w' := by
  have hlt := h.lt
  obtain ⟨p, v, hp, hB, hh, hown, hne, h0⟩ := h
  exact ⟨p, v, hp, hB, by rw [hb.block b hlt]; exact hh, own_below hown hb, hne, h0⟩

theorem info_bld : (Try.prog.info? 77).map (fun i => i.size) = some 2 := by kernel_rfl
theorem lies_bld : liesAt Try.prog Try.prog.depth 77 (2 / Try.prog.cellsOf 77) 0 77 1 = true := by kernel_rfl

set_option maxHeartbeats 1000000 in
theorem copyCheck_used (b : Nat) (w : World) (h0 : w.cell? ⟨b, 0, none⟩ = some (.pointer (some ⟨b, 0, none⟩))) :
    Calls Try.prog 61 #[.pointer (some ⟨b, 0, none⟩)] w fun e w' => e = .returned (.tuple #[]) ∧ w = w' := by
  obtain ⟨j, hj, _⟩ := Option.map_eq_some_iff.1 info_bld
  go_enter Try.func61, Try.ntmps61
  go_wp2
  rw [Lib.run_neq_ptr_same w _ Try.underlying75 hj]
  go_wp2
  go_end0
  exact ⟨rfl, rfl⟩

set_option maxHeartbeats 1000000 in
theorem copyCheck_fresh (b : Nat) (w : World) (h0 : w.cell? ⟨b, 0, none⟩ = some (.pointer none)) (hsh : w.shape? b = some (77, 2)) (hfz : w.frozen? ⟨b, 0, none⟩ = false) :
    Calls Try.prog 61 #[.pointer (some ⟨b, 0, none⟩)] w fun e w' => e = .returned (.tuple #[]) ∧ w.setCell ⟨b, 0, none⟩ (.pointer (some ⟨b, 0, none⟩)) = w' := by
  obtain ⟨j, hj, hjs⟩ := Option.map_eq_some_iff.1 info_bld
  go_enter Try.func61, Try.ntmps61
  go_wp2
  rw [Lib.run_to_unsafe w ⟨b, 0, none⟩ Try.underlying75 Try.underlying145 hj (by rw [hjs]; decide) hsh (Nat.zero_lt_succ 1)]
  simp only [Result.andThen]
  rw [Oper.upon_value]
  go_wp2
  rw [run_callFunc_extern Try.func84 (by kernel_rfl) (by kernel_rfl) (by kernel_rfl) (e := Extern.AbiNoEscape.same) (by kernel_rfl)]
  rw [Lib.run_noEscape]
  simp only [Result.andThen]
  rw [Oper.upon_value]
  go_wp2
  rw [Lib.run_from_unsafe w ⟨b, 0, none⟩ Try.underlying145 Try.underlying75 hj hsh lies_bld]
  simp only [Result.andThen]
  rw [Oper.upon_value]
  go_wp2
  go_end0
  exact ⟨rfl, rfl⟩

/-- copyCheck: behind it the builder knows its own address; it holds what it held. -/
theorem copyCheck_any (B b : Nat) (l : List Bool) (w : World) (h : Bld B b l w) :
    Calls Try.prog 61 #[.pointer (some ⟨b, 0, none⟩)] w fun e w' => e = .returned (.tuple #[]) ∧
      (∃ v, w'.heap[b]? = some (.cells #[.pointer (some ⟨b, 0, none⟩), v] 77 (0, 0)) ∧ w'.ownsRow B 5 1 v l.length (Lib.strCells (txt l)) ∧ v.ownBlock ≠ some b ∧ (l = [] → v = .slice none 0 0)) ∧ Below B w w' := by
  obtain ⟨p, v, hp, hB, hh, hown, hne, h0⟩ := h
  have hat : Lib.BuilderAt 77 5 B b p (Lib.strCells (txt l)) w := ⟨hB, v, hh, by rw [Lib.strCells_length, txt_size]; exact hown, hne⟩
  rcases hp with rfl | rfl
  · refine (copyCheck_fresh b w hat.cell0 hat.shape hat.frozen0).mono ?_
    rintro e w' ⟨rfl, rfl⟩
    refine ⟨rfl, ⟨v, ?_, ?_, hne, h0⟩, (Below.refl B w).setCell (p := ⟨b, 0, none⟩) hB _⟩
    · simp [World.setCell, Array.getElem?_modify, hh]
    · obtain ⟨h1, h2⟩ := hown
      refine ⟨h1, ?_⟩
      rcases h2 with h2 | ⟨g, cap, cur, hv, hg, hh2, r⟩
      · exact .inl h2
      · refine .inr ⟨g, cap, cur, hv, hg, ?_, r⟩
        rw [Below.heap_setCell _ _ _ _ (by rintro rfl; exact hne (by rw [hv]; rfl))]
        exact hh2
  · refine (copyCheck_used b w hat.cell0).mono ?_
    rintro e w' ⟨rfl, rfl⟩
    exact ⟨rfl, ⟨v, hh, hown, hne, h0⟩, Below.refl B _⟩

theorem strCells_append (a b : List Bool) : Lib.strCells (txt a) ++ Lib.strCells (txt b) = Lib.strCells (txt (a ++ b)) := by
  rw [← txt_append]; simp [Lib.strCells]

set_option maxHeartbeats 2000000 in
theorem writeString_any (B b : Nat) (l m : List Bool) (w : World) (h : Bld B b l w) (hlen : l.length + m.length ≤ 140737488355328) (hBw : B ≤ w.heap.size) :
    Calls Try.prog 35 #[.pointer (some ⟨b, 0, none⟩), .string (txt m)] w fun e w' => e = .returned (.tuple #[.int .i64 (txt m).size, .nilIface]) ∧ Bld B b (l ++ m) w' ∧ Below B w w' := by
  obtain ⟨i0, hi, hz0, hz1, hz2⟩ := info_parts info_byte
  have hB : B ≤ b := by obtain ⟨_, _, _, hB, _⟩ := h; exact hB
  go_enter Try.func35, Try.ntmps35
  go_wp2_with fail
  refine (copyCheck_any B b l _ h).mono ?_
  rintro e w1 ⟨rfl, ⟨v, hbk, hown, hne, hnil⟩, hb1⟩
  have c0 : w1.cell? ⟨b, 0, none⟩ = some (.pointer (some ⟨b, 0, none⟩)) := by rw [Lib.cell_of_heap hbk]; rfl
  have c1 : w1.cell? ⟨b, 1, none⟩ = some v := by rw [Lib.cell_of_heap hbk]; rfl
  go_wp2_with (at_builtin; refine Lib.wpList_append_own_string _ rfl _ _ 37 9 rfl B 5 i0 Try.underlying37 Try.underlying9 hi hz0 hz1 hz2 _ _ _ rfl hown (txt m) rfl ?c3 ?c4 ?c5 ?_)
  case c3 => rw [txt_size]; unfold maxLen; omega
  case c4 => rw [txt_size]; omega
  case c5 => have := hb1.size; omega
  intro v' w2 hown' hgrow hn'
  have hlt : b < w1.heap.size := by
    rcases Nat.lt_or_ge b w1.heap.size with h' | h'
    · exact h'
    · simp [Array.getElem?_eq_none h'] at hbk
  have hb2 : w2.heap[b]? = some (.cells #[.pointer (some ⟨b, 0, none⟩), v] 77 (0, 0)) := by
    rw [hgrow.block b hlt (fun e => hne e.symm)]
    exact hbk
  have d0 : w2.cell? ⟨b, 0, none⟩ = some (.pointer (some ⟨b, 0, none⟩)) := by rw [Lib.cell_of_heap hb2]; rfl
  have d1 : w2.cell? ⟨b, 1, none⟩ = some v := by rw [Lib.cell_of_heap hb2]; rfl
  have f1 : w2.frozen? ⟨b, 1, none⟩ = false := Lib.frozen_of_heap hb2 1
  rw [strCells_append, txt_size, ← List.length_append] at hown'
  have hnil' : l ++ m = [] → v' = .slice none 0 0 := by
    intro e
    obtain ⟨e1, e2⟩ := List.append_eq_nil_iff.1 e
    exact hn'.2 ⟨hnil e1, by rw [e2]; rfl⟩
  have hne' := Lib.ownBlock_ne hown' hb2 (by decide)
  have Hnil := veil hnil'; have Hne := veil hne'
  clear hnil' hne' hnil hn' hne
  have hfin : Bld B b (l ++ m) (w2.setCell ⟨b, 1, none⟩ v') := by
    refine ⟨_, v', .inr rfl, hB, ?_, ?_, Hne.out, Hnil.out⟩
    · simp [World.setCell, Array.getElem?_modify, hb2]
    · obtain ⟨h1, h2⟩ := hown'
      refine ⟨h1, ?_⟩
      rcases h2 with h2 | ⟨g, cap, cur, hv, hg, hh2, r⟩
      · exact .inl h2
      · refine .inr ⟨g, cap, cur, hv, hg, ?_, r⟩
        rw [Below.heap_setCell _ _ _ _ (by rintro rfl; exact Hne.out (by rw [hv]; rfl))]
        exact hh2
  have hbf : Below B w (w2.setCell ⟨b, 1, none⟩ v') := (hb1.grown hgrow (by have := hb1.size; omega) (fun k hk => (hown.lt k hk).1)).setCell (p := ⟨b, 1, none⟩) hB _
  obtain ⟨ao, n', cap, rfl⟩ : ∃ ao n' cap, v' = .slice ao n' cap := by
    rcases hown'.2 with ⟨hv, _⟩ | ⟨g, cap, cur, hv, _⟩
    · exact ⟨_, _, _, hv⟩
    · exact ⟨_, _, _, hv⟩
  go_wp2
  go_ret2
  exact ⟨rfl, hfin, hbf⟩

set_option maxHeartbeats 2000000 in
theorem string_any (B b : Nat) (l : List Bool) (w : World) (h : Bld B b l w) :
    Calls Try.prog 39 #[.pointer (some ⟨b, 0, none⟩)] w fun e w' => e = .returned (.string (txt l)) ∧ Below B w w' := by
  obtain ⟨p, v, hp, hB, hbk, hown, hne, hnil⟩ := h
  by_cases h0 : l = []
  · obtain rfl := hnil h0
    subst h0
    have hUS := fun (W : World) (q : Option Addr) => Lib.run_unsafeString_none (P := Try.prog) W 120 3 9 q
    have c1 : w.drew.cell? ⟨b, 1, none⟩ = some (.slice none 0 0) := by
      have : w.drew.heap[b]? = some (.cells #[p, .slice none 0 0] 77 (0, 0)) := hbk
      rw [Lib.cell_of_heap this]; rfl
    have hSD : (Builtin.unsafeSliceData_ #[37] 120 #[.slice none 0 0]).run Try.prog w.drew = .ok (.pointer none) w.drew := rfl
    go_enter Try.func39, Try.ntmps39
    go_wp2
    go_region
    all_goals (go_wp2; go_ret; exact ⟨rfl, Below.drew (Below.refl B w)⟩)
  · have hl0 : l.length ≠ 0 := by simpa using h0
    obtain ⟨g, cap, cur, rfl, hbg, hg, hnc, hcm, hcs, htake⟩ : ∃ g cap cur, v = .slice (some ⟨g, 0, none⟩) l.length cap ∧ B ≤ g ∧ w.heap[g]? = some (.cells cur 5 (0, 0)) ∧ l.length ≤ cap ∧ cap ≤ maxLen ∧ cur.size = cap * 1 ∧ cur.toList.take (l.length * 1) = Lib.strCells (txt l) := by
      rcases hown.2 with ⟨_, hz⟩ | ⟨g, cap, cur, hv, r⟩
      · exact absurd hz hl0
      · exact ⟨g, cap, cur, hv, r⟩
    have c1 : w.drew.cell? ⟨b, 1, none⟩ = some (.slice (some ⟨g, 0, none⟩) l.length cap) := by
      have : w.drew.heap[b]? = some (.cells #[p, .slice (some ⟨g, 0, none⟩) l.length cap] 77 (0, 0)) := hbk
      rw [Lib.cell_of_heap this]; rfl
    have hSD : (Builtin.unsafeSliceData_ #[37] 120 #[.slice (some ⟨g, 0, none⟩) l.length cap]).run Try.prog w.drew = .ok (.pointer (some ⟨g, 0, none⟩)) w.drew :=
      Lib.run_unsafeSliceData_row _ _ _ _ _ _ (by omega)
    have hdl : (dig l).length = l.length := by simp [dig]
    have hUS : (Builtin.unsafeString_ #[120, 3] 9 #[.pointer (some ⟨g, 0, none⟩), .int .i64 l.length]).run Try.prog w.drew = .ok (.string (txt l)) (w.drew.freeze ⟨g, 0, none⟩ l.length) := by
      have hr := Lib.run_unsafeString_row (P := Try.prog) w.drew 120 3 9 5 Try.underlying120 (by kernel_rfl) g cur.size (by have hg' : w.drew.heap[g]? = some (.cells cur 5 (0, 0)) := hg; simp [World.shape?, hg']) (dig l) (by simpa [dig] using h0) (by omega) (by unfold maxLen at hcm; omega) (by
        intro j x hx
        exact hown.cells (g := g) rfl j (.int .u8 x.toNat) (by simp [Lib.strCells, txt, hx]))
      rw [hdl] at hr
      exact hr
    clear htake hcs
    go_enter Try.func39, Try.ntmps39
    go_wp2
    go_region
    all_goals (go_wp2; go_ret; exact ⟨rfl, Lib.below_freeze (Below.drew (Below.refl B w)) (p := ⟨g, 0, none⟩) hbg _⟩)
end Go.Proofs.Ytbboakdfnjjddaa

/- The reference's digitsOf. -/
namespace Go.Proofs.Ytbboakdfnjjddaa
open Go.RowKit
set_option linter.unusedVariables false
set_option linter.unusedSimpArgs false
set_option maxRecDepth 100000

set_option maxHeartbeats 1000000 in
theorem digitsOf_any (A : Option Addr) (c G : Nat) (bs : List Int) (w : World) (hb : Seen w G A (ints .u8 bs)) (hby : Bytes bs) (hG : G ≤ w.heap.size) (hl : bs.length ≤ 1048576) :
    Calls Try.prog 45 #[.slice A bs.length c] w fun e w' => e = .returned (.string (txt (unpack bs))) ∧ Below w.heap.size w w' := by
  go_enter Try.func45, Try.ntmps45
  go_wp2_with fail
  go_loopg [8] bs.length (fun gk i wr => ∃ k : Nat, gk = bs.length - k ∧ k ≤ bs.length ∧ i = .int .i64 k ∧ Bld w.heap.size w.heap.size (unpack (bs.take k)) wr ∧ Below w.heap.size w wr)
  case atStart => exact ⟨0, rfl, Nat.zero_le _, rfl, bld_new w, below1 _ _⟩
  case round =>
    obtain ⟨k, rfl, hk, rfl, hI, hbw⟩ := hrel
    have hz := hbw.size
    by_cases hlt : k < bs.length
    · obtain ⟨g, o, x, rfl, hg, hx, h1⟩ := hb.int hlt
      have hxb := hby x (List.mem_of_getElem? hx)
      have Hx := veil hx; clear hx
      rw [← hbw.cell (by simp; omega)] at h1
      obtain ⟨X, rfl⟩ := Int.eq_ofNat_of_zero_le hxb.1
      have hX : X ≤ 255 := by omega
      clear hxb
      go_wp2_with (first
        | (go_at_call 36; refine (binary_any 8 X _ (by omega) (by omega)).mono ?_; rintro e w1 ⟨rfl, rfl⟩)
        | (go_at_call 35; refine (writeString_any w.heap.size w.heap.size (unpack (bs.take k)) (bitsN 8 X) _ hI (by rw [bitsN_length, unpack_length]; simp; omega) hz).mono ?_; rintro e w2 ⟨rfl, hI2, hb2⟩))
      have hfin : Bld w.heap.size w.heap.size (unpack (bs.take (k + 1))) w2 := by rw [take_snoc Hx.out, unpack_snoc]; exact hI2
      clear hI hI2
      go_roundg (bs.length - (k + 1))
      case rel => exact ⟨k + 1, rfl, by omega, by go_num, hfin, hbw.trans hb2⟩
      case measure => omega
    · obtain rfl : k = bs.length := by omega
      rw [List.take_length] at hI
      go_wp2_with fail
      refine (string_any w.heap.size w.heap.size _ _ hI).mono ?_
      rintro e w1 ⟨rfl, hb1⟩
      go_wp2
      go_ret
      exact ⟨rfl, hbw.trans hb1⟩
end Go.Proofs.Ytbboakdfnjjddaa

/- The reference's TableDecode: the same contract as Decode's. -/
namespace Go.Proofs.Ytbboakdfnjjddaa
open Go.RowKit
set_option linter.unusedVariables false
set_option linter.unusedSimpArgs false
set_option maxRecDepth 100000

theorem digB_inj {a b : Bool} (h : digB a = digB b) : a = b := by cases a <;> cases b <;> first | rfl | (exact absurd h (by decide))
theorem dig_inj : ∀ {a b : List Bool}, dig a = dig b → a = b
  | [], [], _ => rfl
  | [], y :: b, h => by simp [dig] at h
  | x :: a, [], h => by simp [dig] at h
  | x :: a, y :: b, h => by
    simp only [dig, List.map_cons, List.cons.injEq] at h
    rw [digB_inj h.1, dig_inj (a := a) (b := b) h.2]
theorem txt_toList (a : List Bool) : (txt a).toList = dig a := by rw [ByteArray.toList_eq]; simp [txt]
theorem txt_beq (a b : List Bool) : ((txt a).toList == (txt b).toList) = decide (a = b) := by
  rw [txt_toList, txt_toList, Bool.eq_iff_iff, beq_iff_eq, decide_eq_true_iff]
  exact ⟨dig_inj, fun h => by rw [h]⟩

set_option maxHeartbeats 1000000 in
theorem hasPrefix0 (b p : List Bool) (w : World) (hb : b.length ≤ 140737488355328) (hp : p.length ≤ 140737488355328) : Calls Try.prog 90 #[.string (txt b), .string (txt p)] w fun e w' => e = .returned (.bool (p.isPrefixOf b)) ∧ w = w' := by
  have hs1 : (txt b).size = b.length := txt_size b
  have hs2 : (txt p).size = p.length := txt_size p
  by_cases hle : p.length ≤ b.length
  · have hr : p.isPrefixOf b = decide (b.take p.length = p) := by
      rw [Bool.eq_iff_iff, List.isPrefixOf_iff_prefix, List.prefix_iff_eq_take, decide_eq_true_iff]
      exact ⟨fun h => h.symm, fun h => h.symm⟩
    have Hr := veil hr
    have hle' : (p.length : Int) ≤ (b.length : Int) := by omega
    have hle2 : decide (p.length ≤ b.length) = true := decide_eq_true hle
    have hcut : ∀ w, (Instr.slice 9 (.string (txt b)) none (some (.int .i64 (p.length : Int))) none).run Try.prog w = .ok (.string (txt (b.take p.length))) w := by
      intro w
      rw [run_slice_string_to_if w 9 (txt b) .i64 _ Try.underlying9, if_pos ⟨by omega, by rw [hs1]; exact hle'⟩, Int.toNat_natCast, txt_extract]
      simp
    clear hr
    go_enter Try.func90, Try.ntmps90
    go_wp2
    go_ret
    refine ⟨ret_bool ?_, rfl⟩
    rw [Hr.out, ← txt_beq]
  · have hr : p.isPrefixOf b = false := by
      cases h : p.isPrefixOf b with
      | false => rfl
      | true => exact absurd (List.isPrefixOf_iff_prefix.1 h).length_le hle
    have Hr := veil hr
    have hle' : ¬ (p.length : Int) ≤ (b.length : Int) := by omega
    clear hr
    go_enter Try.func90, Try.ntmps90
    go_wp2
    go_ret
    exact ⟨ret_bool (by rw [Hr.out]), rfl⟩
theorem hasPrefix_any (b p : List Bool) (w : World) (hb : b.length ≤ 140737488355328) (hp : p.length ≤ 140737488355328) : Calls Try.prog 70 #[.string (txt b), .string (txt p)] w fun e w' => e = .returned (.bool (p.isPrefixOf b)) ∧ w = w' := by
  have hh := veil (hasPrefix0 b p w hb hp)
  go_enter Try.func70, Try.ntmps70
  go_wp2_with fail
  refine hh.out.mono ?_
  rintro e w1 ⟨rfl, rfl⟩
  go_wp2
  go_ret
  exact ⟨rfl, rfl⟩

theorem find1_hit {ws : List (Int × Nat × Nat)} {b : List Bool} {k : Nat} {t : Int × Nat × Nat} (h : ∀ u ∈ ws.take k, begins u b = false) (ht : ws[k]? = some t) (hb : begins t b = true) : find1 ws b = some (t.1, t.2.1) := by
  have e : ws = ws.take k ++ t :: ws.drop (k + 1) := by
    rw [← List.singleton_append, ← List.append_assoc, ← take_snoc ht, List.take_append_drop]
  unfold find1
  rw [e, List.find?_append, List.find?_eq_none.2 (fun u hu => by rw [h u hu]; simp)]
  simp [List.find?_cons, hb]
theorem find1_miss {ws : List (Int × Nat × Nat)} {b : List Bool} (h : ∀ u ∈ ws, begins u b = false) : find1 ws b = none := by
  unfold find1
  rw [List.find?_eq_none.2 (fun u hu => by rw [h u hu]; simp)]
  rfl
/-- What is left behind the word. -/
def nextR (ws : List (Int × Nat × Nat)) (b : List Bool) : List Bool := if (find1 ws b).isSome = true then b.drop (nextL ws b) else []
theorem mkWords_get {syms : List Int} {l : List (Nat × Nat)} {k : Nat} {x : Int} {p : Nat × Nat} (hx : syms[k]? = some x) (hp : l[k]? = some p) : (mkWords syms l)[k]? = some (x, p.1, p.2) := by
  unfold mkWords; rw [List.getElem?_zipWith, hx, hp]

set_option maxRecDepth 100000 in
set_option maxHeartbeats 2000000 in
theorem symOf_any (cs syms : List Int) (l : List (Nat × Nat)) (A : Option Addr) (c G : Nat) (b : List Bool) (w : World) (hcs : cs.length = 16) (hf : Fine cs syms l) (hs : Seen w G A (ints .i64 syms)) (hG : G ≤ w.heap.size) (hbl : b.length ≤ 140737488355328) :
    Calls Try.prog 48 #[tabV cs A syms.length c, .string (txt b)] w fun e w' => e = .returned (.tuple #[.int .i64 (nextS (mkWords syms l) b), .string (txt (nextR (mkWords syms l) b)), .int .i64 (nextE (mkWords syms l) b)]) ∧ Below w.heap.size w w' := by
  have h16 : (tabCells cs A syms.length c)[16]? = some (.slice A syms.length c) := tabCells_last hcs
  have hlen17 : (tabCells cs A syms.length c).length = 17 := tabCells_length hcs
  have h256 := hf.good.le
  have hll : l.length = syms.length := (codes_length hf.code).trans hf.good.sum
  have hwo := fun w1 => refWordsOf_any (nats cs) A syms.length c w1 (by rw [nats_length]; exact hcs) (by rw [hf.good.sum]; exact hf.good.le)
  rw [natI_nats hf.good.1, hf.code] at hwo
  have hsm : ∀ p ∈ l, p.1 ≤ 16 := fun p hp => ((hf.kr hcs).ge p hp).2.1
  have Hll := veil hll; have Hsm := veil hsm
  clear hf hll hcs hsm
  obtain ⟨ys, hys⟩ : ∃ ys, ys = tabCells cs A syms.length c := ⟨_, rfl⟩
  have Hr := veil (range_new w ys 34)
  unfold tabV at hwo ⊢
  rw [← hys] at hlen17 hwo h16 ⊢
  clear hys
  have Hwo := veil hwo; clear hwo
  have H17 := veil hlen17; clear hlen17
  go_enter Try.func48, Try.ntmps48
  go_wp2_with (first
    | (refine wpList_load_mid rfl 34 (.tmp 2) rfl w.heap.size 0 rfl ys _ Hr.out Try.underlying34 rfl (by rw [H17.out]; exact info_tab) ?_)
    | fail)
  refine (Hwo.out _).mono ?_
  rintro e w1 ⟨v, rfl, HS, hb1⟩
  have c16 : w1.cell? ⟨w.heap.size, 16, none⟩ = some (.slice A syms.length c) := by rw [hb1.cell (by simp), World.cell?_alloc_at _ _ _ _ rfl]; simpa using h16
  have hbel1 : Below w.heap.size w w1 := (below1 _ _).trans (hb1.mono (by simp))
  have hz1 := hb1.size
  simp at hz1
  obtain ⟨A5, c5, e5, hs5, _, _⟩ := HS.seen (List.mem_cons_self ..)
  simp only [strRow, Option.getD_some, Hll.out] at e5 hs5
  subst e5
  clear Hr hb1 Hwo h16 HS
  go_wp2_with fail
  go_loopg [9, 10, 18] syms.length (fun gk i0 s0 i wr => ∃ k : Nat, gk = syms.length - k ∧ k ≤ syms.length ∧ i = .int .i64 k ∧ Hid (∀ u ∈ (mkWords syms l).take k, begins u b = false) ∧ w1 = wr)
  case atStart => exact ⟨0, rfl, Nat.zero_le _, rfl, veil (by simp), rfl⟩
  case round =>
    obtain ⟨k, rfl, hk, rfl, HN, rfl⟩ := hrel
    by_cases hlt : k < syms.length
    · obtain ⟨p, hp⟩ := some_at (xs := l) (j := k) (by rw [Hll.out]; exact hlt)
      obtain ⟨g5, o5, rfl, hg5, h5⟩ := hs5.cell (strs_at hp)
      obtain ⟨g, o, y, rfl, hg, hy, h1⟩ := hs.int hlt
      rw [← hbel1.cell (by simp; omega)] at h1
      have hp16 := Hsm.out p (List.mem_of_getElem? hp)
      have hget := mkWords_get hy hp
      have hhp := hasPrefix_any b (bitsN p.1 p.2) w1 hbl (by rw [bitsN_length]; omega)
      have hsz : (txt (bitsN p.1 p.2)).size = p.1 := by rw [txt_size, bitsN_length]
      have hszb : (txt b).size = b.length := txt_size b
      have hlt' : (k : Int) < (syms.length : Int) := by omega
      have Hget := veil hget
      clear hget hp hy
      cases hbg : (bitsN p.1 p.2).isPrefixOf b with
      | true =>
        rw [hbg] at hhp
        have hbl2 : p.1 ≤ b.length := by have := (List.isPrefixOf_iff_prefix.1 hbg).length_le; rw [bitsN_length] at this; exact this
        have hf1 := find1_hit HN.out Hget.out (show begins (y, p.1, p.2) b = true from hbg)
        have h11 : nextS (mkWords syms l) b = y := by unfold nextS; rw [hf1]; rfl
        have h12 : nextR (mkWords syms l) b = b.drop p.1 := by unfold nextR nextL; rw [hf1]; rfl
        have h13 : nextE (mkWords syms l) b = 0 := by unfold nextE; rw [hf1]; rfl
        have H1 := veil h11; have H2 := veil h12; have H3 := veil h13; have Hhp := veil hhp
        have hcut : ∀ w, (Instr.slice 9 (.string (txt b)) (some (.int .i64 (p.1 : Int))) none none).run Try.prog w = .ok (.string (txt (b.drop p.1))) w := by
          intro w
          rw [run_slice_string_from_if w 9 (txt b) .i64 _ Try.underlying9, if_pos ⟨by omega, by rw [hszb]; omega⟩, Int.toNat_natCast, hszb, txt_extract]
          rw [List.take_of_length_le (by simp)]
        clear h11 h12 h13 hf1 hbg hhp
        generalize txt (bitsN p.1 p.2) = tx at *
        obtain ⟨tr, htr⟩ : ∃ tr, tr = txt (b.drop p.1) := ⟨_, rfl⟩
        rw [← htr] at hcut
        have Htr := veil htr; clear htr
        go_wp2_with fail
        refine Hhp.out.mono ?_
        rintro e w3 ⟨rfl, rfl⟩
        go_wp2_with fail
        go_quiet (fail)
        go_wp2
        go_ret3
        exact ⟨ret_three (by rw [H1.out]; rfl) (by rw [H2.out, ← Htr.out]; rfl) (by rw [H3.out]; rfl), hbel1.drewN _⟩
      | false =>
        rw [hbg] at hhp
        have Hhp := veil hhp; have Hbg := veil hbg
        clear hhp hbg
        generalize txt (bitsN p.1 p.2) = tx at *
        go_wp2_with fail
        refine Hhp.out.mono ?_
        rintro e w3 ⟨rfl, rfl⟩
        go_wp2
        go_roundg (syms.length - (k + 1))
        case rel => exact ⟨k + 1, rfl, by omega, by go_num, veil (mem_snoc Hget.out HN.out Hbg.out), rfl⟩
        case measure => omega
    · obtain rfl : k = syms.length := by omega
      have hall : ∀ u ∈ mkWords syms l, begins u b = false := by
        have := HN.out
        rw [List.take_of_length_le (by rw [mkWords_length _ _ (by rw [Hll.out]; omega), Hll.out]; omega)] at this
        exact this
      have hf1 := find1_miss hall
      have h11 : nextS (mkWords syms l) b = 0 := by unfold nextS; rw [hf1]; rfl
      have h12 : nextR (mkWords syms l) b = [] := by unfold nextR; rw [hf1]; rfl
      have h13 : nextE (mkWords syms l) b = if b.length < 16 then 3 else 4 := by unfold nextE; rw [hf1]; rfl
      have H1 := veil h11; have H2 := veil h12
      have hszb : (txt b).size = b.length := txt_size b
      clear h11 h12 hf1 hall
      by_cases h16 : b.length < 16
      · rw [if_pos h16] at h13
        have H3 := veil h13
        clear h13
        have h16' : (b.length : Int) < 16 := by omega
        go_wp2
        go_ret3
        exact ⟨ret_three (by rw [H1.out]; rfl) (by rw [H2.out]; rfl) (by rw [H3.out]; rfl), hbel1⟩
      · rw [if_neg h16] at h13
        have H3 := veil h13
        clear h13
        have h16' : ¬ (b.length : Int) < 16 := by omega
        go_wp2
        go_ret3
        exact ⟨ret_three (by rw [H1.out]; rfl) (by rw [H2.out]; rfl) (by rw [H3.out]; rfl), hbel1⟩

theorem nextR_hit {ws : List (Int × Nat × Nat)} {b : List Bool} (h : nextE ws b = 0) : nextR ws b = b.drop (nextL ws b) := by
  unfold nextE at h
  split at h
  · rename_i h1; unfold nextR; rw [if_pos h1]
  · split at h <;> cases h

end Go.Proofs.Ytbboakdfnjjddaa

/- Two tables in one value; the reference's TablesCheck: its contract. -/
namespace Go.Proofs.Ytbboakdfnjjddaa
open Go.RowKit
set_option linter.unusedVariables false
set_option linter.unusedSimpArgs false
set_option maxRecDepth 100000

/-- Two tables' cells. -/
def tabsCells (cs : List Int) (A : Option Addr) (n c : Nat) (cs2 : List Int) (A2 : Option Addr) (n2 c2 : Nat) : List Value := tabCells cs A n c ++ tabCells cs2 A2 n2 c2
abbrev tabsV (cs : List Int) (A : Option Addr) (n c : Nat) (cs2 : List Int) (A2 : Option Addr) (n2 c2 : Nat) : Value := .agg (tabsCells cs A n c cs2 A2 n2 c2).toArray
/-- What a check of both answers. -/
def eTs (cs syms cs2 syms2 : List Int) : Int := if checkErr cs syms = 0 then checkErr cs2 syms2 else checkErr cs syms
theorem range_right {w : World} {b o : Nat} {xs ys : List Value} (h : w.rangeAt b o (xs ++ ys)) : w.rangeAt b (o + xs.length) ys := fun j v hv => by
  have := h (xs.length + j) v (by rw [List.getElem?_append_right (by omega), Nat.add_sub_cancel_left]; exact hv)
  rw [Nat.add_assoc]; exact this
set_option maxRecDepth 100000 in
set_option maxHeartbeats 2000000 in
theorem tablesCheck_any (cs syms : List Int) (A : Option Addr) (c : Nat) (cs2 syms2 : List Int) (A2 : Option Addr) (c2 G : Nat) (w : World)
    (hcs : cs.length = 16) (hn : syms.length ≤ maxLen) (hcap : syms.length ≤ c) (hb : ∀ x ∈ cs, -9223372036854775808 ≤ x ∧ x ≤ 9223372036854775807) (hs : Seen w G A (ints .i64 syms))
    (hcs2 : cs2.length = 16) (hn2 : syms2.length ≤ maxLen) (hcap2 : syms2.length ≤ c2) (hb2 : ∀ x ∈ cs2, -9223372036854775808 ≤ x ∧ x ≤ 9223372036854775807) (hs2 : Seen w G A2 (ints .i64 syms2)) (hG : G ≤ w.heap.size) :
    Calls Try.prog 33 #[tabsV cs A syms.length c cs2 A2 syms2.length c2] w fun e w' => e = .returned (.int .i64 (eTs cs syms cs2 syms2)) ∧ Below w.heap.size w w' := by
  have h17 : (tabCells cs A syms.length c).length = 17 := tabCells_length hcs
  have h17b : (tabCells cs2 A2 syms2.length c2).length = 17 := tabCells_length hcs2
  have HC1 := veil (fun W h hG => refCheck_any cs syms A c G W hcs hn hcap hb h hG)
  have HC2 := veil (fun W h hG => refCheck_any cs2 syms2 A2 c2 G W hcs2 hn2 hcap2 hb2 h hG)
  have hb0 := below1 w (.cells (tabsCells cs A syms.length c cs2 A2 syms2.length c2).toArray 36)
  have hz0 : (w.alloc (.cells (tabsCells cs A syms.length c cs2 A2 syms2.length c2).toArray 36)).heap.size = w.heap.size + 1 := by simp
  have hr := range_new w (tabsCells cs A syms.length c cs2 A2 syms2.length c2) 36
  have hr1 := range_left hr
  have hr2 := range_right hr
  rw [h17] at hr2
  have HE : Hid (eTs cs syms cs2 syms2 = if checkErr cs syms = 0 then checkErr cs2 syms2 else checkErr cs syms) := rfl
  have H17 := veil h17
  have H17b := veil h17b
  clear hr h17 h17b hcs hcs2 hb hb2
  unfold tabsV
  unfold tabV at HC1 HC2
  generalize tabsCells cs A syms.length c cs2 A2 syms2.length c2 = zs at *
  generalize tabCells cs A syms.length c = xs at *
  generalize tabCells cs2 A2 syms2.length c2 = ys at *
  generalize eTs cs syms cs2 syms2 = E at *
  generalize checkErr cs syms = e1 at *
  generalize checkErr cs2 syms2 = e2 at *
  go_enter Try.func33, Try.ntmps33
  go_wp2_with (first
    | (refine wpList_load_mid rfl 34 (.tmp 4) rfl w.heap.size 0 rfl xs _ hr1 Try.underlying34 rfl (by rw [H17.out]; exact info_tab) ?_)
    | fail)
  refine (HC1.out _ (hs.below hb0 hG) (by rw [hz0]; omega)).mono ?_
  rintro e w1 ⟨rfl, hb1⟩
  have hr2' := range_below hr2 hb1 (by rw [hz0]; omega)
  have hbw := hb0.trans (hb1.mono (by rw [hz0]; omega))
  clear hr1 hr2 hb0 hb1 HC1
  by_cases h0 : e1 = 0
  · subst h0
    have hE := HE.out
    rw [if_pos rfl] at hE
    subst hE
    go_wp2_with (first
      | (refine wpList_load_mid rfl 34 (.tmp 10) rfl w.heap.size 17 rfl ys _ (by simpa using hr2') Try.underlying34 rfl (by rw [H17b.out]; exact info_tab) ?_)
      | fail)
    refine (HC2.out _ (hs2.below hbw hG) (by have := hbw.size; omega)).mono ?_
    rintro e w2 ⟨rfl, hb2⟩
    have hf := hbw.trans (hb2.mono hbw.size)
    go_wp2
    go_ret
    exact ⟨rfl, hf⟩
  · have hE := HE.out
    rw [if_neg h0] at hE
    subst hE
    have hne : (E != 0) = true := by simpa using h0
    clear h0
    go_wp2
    go_ret
    exact ⟨rfl, hbw⟩
end Go.Proofs.Ytbboakdfnjjddaa

/- A block whose cells are all known, and one cell of it written. No program is named here. -/
namespace Go.Proofs.Ytbboakdfnjjddaa
open Go.RowKit
set_option linter.unusedVariables false
set_option linter.unusedSimpArgs false
set_option maxRecDepth 100000

/-- Block b is these cells. -/
def Blk (w : World) (b : Nat) (xs : List Value) (t : TypeId) : Prop := w.heap[b]? = some (.cells xs.toArray t (0, 0))
section
variable {w w' : World} {b : Nat} {xs : List Value} {t : TypeId}
theorem Blk.new (w : World) (xs : List Value) (t : TypeId) : Blk (w.alloc (.cells xs.toArray t)) w.heap.size xs t := heap_alloc_last w _
theorem Blk.lt (h : Blk w b xs t) : b < w.heap.size := (Array.getElem?_eq_some_iff.1 h).1
theorem Blk.cell (h : Blk w b xs t) {i : Nat} {v : Value} (hv : xs[i]? = some v) : w.cell? ⟨b, i, none⟩ = some v := by
  rw [cell_of_row w b i _ _ _ h]; simpa using hv
theorem Blk.frozen (h : Blk w b xs t) (i : Nat) : w.frozen? ⟨b, i, none⟩ = false := frozen_of_row w b i _ _ h
theorem Blk.range (h : Blk w b xs t) : w.rangeAt b 0 xs := fun j v hv => by rw [Nat.zero_add]; exact h.cell hv
theorem Blk.below (h : Blk w b xs t) {C : Nat} (hb : Below C w w') (hC : b < C) : Blk w' b xs t := by
  unfold Blk at h ⊢; rw [hb.block b hC]; exact h
theorem Blk.set (h : Blk w b xs t) (i : Nat) (v : Value) : Blk (w.setCell ⟨b, i, none⟩ v) b (xs.set i v) t := by
  have := heap_setCell_same w b i xs.toArray t v h
  unfold Blk
  rw [this]
  simp
theorem Blk.drewN (h : Blk w b xs t) (n : Nat) : Blk (w.drewN n) b xs t := h
theorem Owns.setCell {B : Nat} {rs : List Row} (h : Owns B rs w) {a : Addr} (ha : a.block < B) (v : Value) : Owns B rs (w.setCell a v) := by
  refine ⟨by have := h.base; simpa [World.setCell] using this, fun r hr => ?_, h.apart⟩
  obtain ⟨h1, h2⟩ := h.each r hr
  refine ⟨h1, ?_⟩
  rcases h2 with h2 | ⟨g, cap, cur, hv, hg, hh, r⟩
  · exact .inl h2
  · exact .inr ⟨g, cap, cur, hv, hg, by rw [Below.heap_setCell _ _ _ _ (by omega)]; exact hh, r⟩
end
/-- A whole value into the block made last. -/
theorem wpList_store_new {P : Program} {ops : Array Oper} {rest : List Oper} {o : Oper} {a : Act} {Q : Exit → Act → World → Prop} (w0 : World) (hgd : o.guard = none) (t : TypeId) (x y : Operand) (ho : o.op = .store t x y) (c : Array Value) (c' : List Value)
    (hx : a.eval x = .pointer (some ⟨w0.heap.size, 0, none⟩)) (hy : a.eval y = .agg c'.toArray) (hi : (P.info? t).map (·.size) = some c'.length) (hsz : c.size = c'.length) (h1 : ∀ u ∈ c', u.oneCell' = true)
    (h : wpList P ops Q rest (a.put o.dst undef) (w0.alloc (.cells c'.toArray t))) : wpList P ops Q (o :: rest) a (w0.alloc (.cells c t)) := by
  refine wpList_plain hgd fun _ hK => ?_
  have hr := run_storeAt_new (P := P) w0 t c c'.toArray (by simpa using hi) (by simpa using hsz) (all_oneCell_toArray h1)
  unfold Oper.wp execOp
  simp only [ho, hx, hy, hr, Sem.run_bind, Sem.run_pure, Result.andThen_ok]
  exact hK _ _ h
theorem setCells_blk {b : Nat} {t : TypeId} : ∀ (vs xs pre : List Value) (w : World), vs.length = xs.length → Blk w b (pre ++ xs) t → Blk (w.setCells b pre.length vs) b (pre ++ vs) t ∧ w.grownBy (w.setCells b pre.length vs) (some b)
  | [], xs, pre, w, hl, h => by
    have : xs = [] := List.length_eq_zero_iff.1 hl.symm
    subst this
    exact ⟨h, World.grownBy.refl w _⟩
  | v :: vs, [], pre, w, hl, h => by simp at hl
  | v :: vs, x :: xs, pre, w, hl, h => by
    have h1 := h.set pre.length v
    have e1 : (pre ++ x :: xs).set pre.length v = (pre ++ [v]) ++ xs := by simp [List.set_append]
    rw [e1] at h1
    have hg : w.grownBy (w.setCell ⟨b, pre.length, none⟩ v) (some b) := ⟨rfl, rfl, rfl, by simp [World.setCell], fun i _ hi => Below.heap_setCell _ _ _ _ (fun e => hi (by rw [e]))⟩
    obtain ⟨h2, h3⟩ := setCells_blk vs xs (pre ++ [v]) _ (by simpa using hl) h1
    have e2 : (pre ++ [v]).length = pre.length + 1 := by simp
    rw [e2] at h2 h3
    refine ⟨by simpa [World.setCells] using h2, ?_⟩
    exact hg.trans h3
/-- A whole value into a block that is known. -/
theorem wpList_store_blk {P : Program} {ops : Array Oper} {rest : List Oper} {o : Oper} {a : Act} {Q : Exit → Act → World → Prop} (w : World) (hgd : o.guard = none) (t : TypeId) (x y : Operand) (ho : o.op = .store t x y) (b : Nat) (xs ys : List Value) (e : TypeId) (hB : Blk w b xs e)
    (hx : a.eval x = .pointer (some ⟨b, 0, none⟩)) (hy : a.eval y = .agg ys.toArray) (hi : (P.info? t).map (·.size) = some ys.length) (hl : ys.length = xs.length) (h1 : ∀ u ∈ ys, u.oneCell' = true)
    (h : ∀ w', Blk w' b ys e → w.grownBy w' (some b) → wpList P ops Q rest (a.put o.dst undef) w') : wpList P ops Q (o :: rest) a w := by
  obtain ⟨h2, h3⟩ := setCells_blk ys xs [] w hl hB
  refine wpList_store_mid hgd t x y ho b 0 ys.toArray hx hy (fun j hj => ⟨?_, by rw [Nat.zero_add]; exact hB.frozen j⟩) (by simpa using hi) (all_oneCell_toArray h1) (h _ h2 h3)
  obtain ⟨u, hu⟩ := some_at (xs := xs) (j := j) (by simp at hj; omega)
  rw [Nat.zero_add, hB.cell hu]; rfl
theorem Blk.kept {w w' : World} {b : Nat} {xs : List Value} {t : TypeId} {r : Option Nat} (h : Blk w b xs t) (hg : w.grownBy w' r) (hr : some b ≠ r) : Blk w' b xs t := by
  unfold Blk at h ⊢
  rw [hg.block b (Array.getElem?_eq_some_iff.1 h).1 hr]; exact h
theorem Owns.kept {w w' : World} {B b : Nat} {rs : List Row} (h : Owns B rs w) (hg : w.grownBy w' (some b)) (hb : b < B) : Owns B rs w' := by
  refine ⟨Nat.le_trans h.base hg.size, fun r hr => (h.each r hr).kept hg ?_, h.apart⟩
  cases hv : r.v.ownBlock with
  | none => exact .inl rfl
  | some g => exact .inr fun e => by injection e with e; have := ((h.each r hr).lt g hv).1; omega
end Go.Proofs.Ytbboakdfnjjddaa

/- A call of a function that was handed over, its number a letter; a block and two numbers handed back; what a call may do to one block. No program is named here. -/
namespace Go.Proofs.Ytbboakdfnjjddaa
open Go.RowKit
set_option linter.unusedVariables false
set_option linter.unusedSimpArgs false
set_option maxRecDepth 100000

/-- A call of this function enters its body. -/
def Enters (P : Program) (f : FuncId) : Prop := ∀ (args : Array Value) (w : World), (callFunc f args).run P w = .ok (.enter f args) w
theorem Enters.of {P : Program} {f : FuncId} {fn : Func} (h : P.funcs[f]? = some fn) (hn : (fn.name == "runtime.NumGoroutine") = false) (hb : fn.body.isNone = false) : Enters P f := by
  intro args w
  have h1 : ¬ fn.name = "runtime.NumGoroutine" := by simpa using hn
  have h2 : ¬ fn.body = none := by intro e; rw [e] at hb; cases hb
  simp [callFunc, h, h1, h2]
theorem results_row_tmp2 {P : Program} {fn : Func} {p u u2 : Tmp} {ty : TypeId} (h : fn.results = #[.cell p ty, .tmp u, .tmp u2]) (tmps : Array Value) (w : World) (g : Nat) (t : TypeId) (cs : Array Value) (fr : Nat × Nat) (d : TypeDesc) (x y : Value)
    (hp : tmps.getD p undef = .pointer (some ⟨g, 0, none⟩)) (hx : tmps.getD u undef = x) (hy : tmps.getD u2 undef = y) (hg : w.heap[g]? = some (.cells cs t fr))
    (hu : P.underlying ty = some d) (hd : (match d with | .struct _ | .array _ _ => true | _ => false) = true) (hi : (P.info? ty).map (·.size) = some cs.size) :
    (results fn tmps).run P w = .ok (.tuple #[.agg cs, x, y]) w := by
  have hp' : tmps[p]?.getD undef = .pointer (some ⟨g, 0, none⟩) := by simpa using hp
  have hx' : tmps[u]?.getD undef = x := by simpa using hx
  have hy' : tmps[u2]?.getD undef = y := by simpa using hy
  simp [results, h, hp', hx', hy', asAddr, run_loadVar_row w g t ty cs fr d hg hu hd hi, Sem.run_bind, Result.andThen]
/-- Only block g of those that were there has changed. -/
theorem grown_below {w w1 w2 : World} {B g : Nat} (h : w.grownBy w1 (some g)) (hb : Below B w1 w2) (hB : w.heap.size ≤ B) : w.grownBy w2 (some g) :=
  ⟨hb.os.trans h.os, hb.tape.trans h.tape, hb.output.trans h.output, Nat.le_trans h.size hb.size, fun i hi hr => (hb.block i (by omega)).trans (h.block i hi hr)⟩
theorem grown_set {w w1 : World} {g b k : Nat} {v : Value} (h : w.grownBy w1 (some g)) (hb : w.heap.size ≤ b) : w.grownBy (w1.setCell ⟨b, k, none⟩ v) (some g) :=
  ⟨h.os, h.tape, h.output, by have := h.size; simpa [World.setCell] using this, fun i hi hr => (Below.heap_setCell _ _ _ _ (by simp; omega)).trans (h.block i hi hr)⟩
theorem grown_grown {w w1 w2 : World} {g b : Nat} (h : w.grownBy w1 (some g)) (h2 : w1.grownBy w2 (some b)) (hb : w.heap.size ≤ b) : w.grownBy w2 (some g) :=
  ⟨h2.os.trans h.os, h2.tape.trans h.tape, h2.output.trans h.output, Nat.le_trans h.size h2.size, fun i hi hr => (h2.block i (by have := h.size; omega) (by simp; omega)).trans (h.block i hi hr)⟩
theorem grown_setCell (w : World) (g k : Nat) (v : Value) : w.grownBy (w.setCell ⟨g, k, none⟩ v) (some g) := ⟨rfl, rfl, rfl, by simp [World.setCell], fun i _ hi => Below.heap_setCell _ _ _ _ (fun e => hi (by rw [e]))⟩
theorem Seen.grown {w w' : World} {G g : Nat} {A : Option Addr} {xs : List Value} (h : Seen w G A xs) (hg : w.grownBy w' (some g)) (h1 : G ≤ g) (h2 : G ≤ w.heap.size) : Seen w' G A xs :=
  h.of w w' fun p hp => World.cell?_of_block (hg.block p.block (by omega) (by simp; omega))
end Go.Proofs.Ytbboakdfnjjddaa

/- Sizes of numbers and their bits. No program is named here. -/
namespace Go.Proofs.Ytbboakdfnjjddaa
set_option linter.unusedVariables false
set_option linter.unusedSimpArgs false
set_option maxRecDepth 100000

/-- How many bits a number has. -/
def szN (m : Nat) : Nat := if m = 0 then 0 else Nat.log2 m + 1
def szZ (n : Int) : Nat := szN n.natAbs
/-- Two to this. -/
def pw (k : Nat) : Int := ((2 ^ k : Nat) : Int)
/-- The bits of a number. -/
def vbZ (n : Int) : Int := if 0 < n then n else n + pw (szZ n) - 1
/-- The number that a width and bits tell. -/
def bkZ (w : Nat) (v : Int) : Int := if pw w ≤ 2 * v then v else v - pw w + 1
theorem pw_pos (k : Nat) : 1 ≤ pw k := by have := Nat.two_pow_pos k; unfold pw; omega
theorem pw_succ (k : Nat) : pw (k + 1) = 2 * pw k := by unfold pw; rw [Nat.pow_succ]; omega
theorem pw_zero : pw 0 = 1 := rfl
theorem pw_mono {a b : Nat} (h : a ≤ b) : pw a ≤ pw b := by
  have := Nat.pow_le_pow_right (n := 2) (by omega) h
  unfold pw; omega
theorem szN_zero : szN 0 = 0 := rfl
theorem szN_lt (m : Nat) : m < 2 ^ szN m := by
  unfold szN
  by_cases h : m = 0
  · rw [if_pos h, h]; decide
  · rw [if_neg h]; exact Nat.lt_log2_self
theorem szN_ge {m : Nat} (h : m ≠ 0) : 2 ^ (szN m - 1) ≤ m := by
  unfold szN
  rw [if_neg h]
  exact Nat.log2_self_le h
theorem szN_pos {m : Nat} (h : m ≠ 0) : 0 < szN m := by unfold szN; rw [if_neg h]; omega
theorem szN_le {m k : Nat} (h : m < 2 ^ k) : szN m ≤ k := by
  by_cases h0 : m = 0
  · rw [h0, szN_zero]; omega
  · have h1 := szN_ge h0
    have h2 : 2 ^ (szN m - 1) < 2 ^ k := Nat.lt_of_le_of_lt h1 h
    have := (Nat.pow_lt_pow_iff_right (a := 2) (by omega)).1 h2
    have := szN_pos h0
    omega
theorem szN_gt {m k : Nat} (h : 2 ^ k ≤ m) : k < szN m := by
  have h1 := szN_lt m
  have h2 : 2 ^ k < 2 ^ szN m := Nat.lt_of_le_of_lt h h1
  exact (Nat.pow_lt_pow_iff_right (a := 2) (by omega)).1 h2
theorem szN_is {m k : Nat} (h1 : 2 ^ k ≤ m) (h2 : m < 2 ^ (k + 1)) : szN m = k + 1 := by
  have := szN_le h2
  have := szN_gt h1
  omega
theorem szZ_neg (n : Int) : szZ (-n) = szZ n := by unfold szZ; rw [Int.natAbs_neg]
theorem szZ_zero : szZ 0 = 0 := rfl
theorem szZ_lt (n : Int) : n < pw (szZ n) ∧ -n < pw (szZ n) := by
  have := szN_lt n.natAbs
  unfold pw szZ
  omega
theorem szZ_ge {n : Int} (h : n ≠ 0) : pw (szZ n) ≤ 2 * n ∨ pw (szZ n) ≤ -2 * n := by
  have h1 := szN_ge (m := n.natAbs) (by omega)
  have h2 := szN_pos (m := n.natAbs) (by omega)
  unfold pw szZ
  obtain ⟨k, hk⟩ : ∃ k, szN n.natAbs = k + 1 := ⟨szN n.natAbs - 1, by omega⟩
  rw [hk] at h1 ⊢
  rw [Nat.add_sub_cancel] at h1
  rw [Nat.pow_succ]
  omega
theorem szZ_le {n : Int} {k : Nat} (h1 : n < pw k) (h2 : -n < pw k) : szZ n ≤ k := szN_le (by unfold pw at h1 h2; omega)
/-- The bits lie within the width. -/
theorem vbZ_in (n : Int) : 0 ≤ vbZ n ∧ vbZ n < pw (szZ n) := by
  have h := szZ_lt n
  unfold vbZ
  split
  · omega
  · constructor <;> omega
/-- There and back. -/
theorem bk_vb (n : Int) : bkZ (szZ n) (vbZ n) = n := by
  have h := szZ_lt n
  unfold bkZ vbZ
  by_cases h0 : n = 0
  · subst h0; decide
  · have h1 := szZ_ge h0
    by_cases hp : 0 < n
    · rw [if_pos hp, if_pos (by omega)]
    · rw [if_neg hp, if_neg (by omega)]; omega
theorem sz_bk {w : Nat} {v : Int} (h1 : 0 ≤ v) (h2 : v < pw w) : szZ (bkZ w v) = w := by
  unfold bkZ
  cases w with
  | zero =>
    rw [pw_zero] at h2
    obtain rfl : v = 0 := by omega
    decide
  | succ k =>
    rw [pw_succ] at h2 ⊢
    split
    · unfold szZ
      refine szN_is ?_ ?_
      · unfold pw at *; omega
      · rw [Nat.pow_succ]; unfold pw at *; omega
    · unfold szZ
      refine szN_is ?_ ?_
      · unfold pw at *; omega
      · rw [Nat.pow_succ]; unfold pw at *; omega
theorem vb_bk {w : Nat} {v : Int} (h1 : 0 ≤ v) (h2 : v < pw w) : vbZ (bkZ w v) = v := by
  have hs := sz_bk h1 h2
  unfold vbZ
  rw [hs]
  have hp := pw_pos w
  unfold bkZ
  by_cases h : pw w ≤ 2 * v
  · rw [if_pos h, if_pos (by omega)]
  · rw [if_neg h, if_neg (by omega)]; omega
theorem sz_12 {n : Int} (h1 : -4095 ≤ n) (h2 : n ≤ 4095) : szZ n ≤ 12 := szZ_le (by show n < 4096; omega) (by show -n < 4096; omega)
theorem sz_11 {n : Int} (h1 : -2047 ≤ n) (h2 : n ≤ 2047) : szZ n ≤ 11 := szZ_le (by show n < 2048; omega) (by show -n < 2048; omega)
theorem bk_in {w : Nat} {v : Int} (h1 : 0 ≤ v) (h2 : v < pw w) : -(pw w) < bkZ w v ∧ bkZ w v < pw w := by
  have hp := pw_pos w
  unfold bkZ; split <;> omega
end Go.Proofs.Ytbboakdfnjjddaa

/- Tokens of the numbers of a block, and numbers of tokens. No program is named here. -/
namespace Go.Proofs.Ytbboakdfnjjddaa
set_option linter.unusedVariables false
set_option linter.unusedSimpArgs false
set_option maxRecDepth 100000

/-- A token: its symbol, its width, its value. -/
def tkN (r : Nat) (n : Int) : Int × Int × Int := (16 * (r : Int) + szZ n, (szZ n : Int), vbZ n)
def tkLong : Int × Int × Int := (240, 0, 0)
def tkEnd : Int × Int × Int := (0, 0, 0)
/-- The tokens of the numbers behind the first one, r zeros being ahead. -/
def restT : Nat → List Int → List (Int × Int × Int)
  | r, [] => if r = 0 then [] else [tkEnd]
  | r, z :: zs => if z = 0 then restT (r + 1) zs else List.replicate (r / 16) tkLong ++ tkN (r % 16) z :: restT 0 zs
/-- The tokens of a block's numbers in their order. -/
def toksZ (before : Int) : List Int → List (Int × Int × Int)
  | [] => []
  | z :: zs => tkN 0 (z - before) :: restT 0 zs
theorem restT_nil (r : Nat) : restT r [] = if r = 0 then [] else [tkEnd] := rfl
theorem restT_zero (r : Nat) (zs : List Int) : restT r (0 :: zs) = restT (r + 1) zs := by rw [restT, if_pos rfl]
theorem restT_cons {z : Int} (r : Nat) (zs : List Int) (h : z ≠ 0) : restT r (z :: zs) = List.replicate (r / 16) tkLong ++ tkN (r % 16) z :: restT 0 zs := by rw [restT, if_neg h]
/-- Is a token told by a width and bits? -/
def fitT (t : Int × Int × Int) : Bool := decide (0 ≤ t.2.1 ∧ t.2.1 ≤ 12 ∧ 0 ≤ t.2.2 ∧ t.2.2 < pw t.2.1.toNat)
/-- May a token come behind the first one? -/
def okT (t : Int × Int × Int) : Bool := fitT t && decide (0 ≤ t.1 ∧ t.1 ≤ 255 ∧ t.1 % 16 = t.2.1 ∧ t.2.1 ≤ 11 ∧ (t.2.1 = 0 → t.1 = 0 ∨ t.1 = 240))
/-- The number of a token. -/
def numT (t : Int × Int × Int) : Int := bkZ t.2.1.toNat t.2.2
/-- How many numbers a token tells. -/
def farT (t : Int × Int × Int) : Nat := (t.1 / 16).toNat + 1
theorem tkN_fit {r : Nat} {n : Int} (h1 : -4095 ≤ n) (h2 : n ≤ 4095) : fitT (tkN r n) = true := by
  have h := vbZ_in n
  have := sz_12 h1 h2
  unfold fitT tkN
  simp only [decide_eq_true_eq, Int.toNat_natCast]
  omega
end Go.Proofs.Ytbboakdfnjjddaa

/- What the laws on tokens ask, in numbers; steps of a reader of tokens. No program is named here. -/
namespace Go.Proofs.Ytbboakdfnjjddaa
set_option linter.unusedVariables false
set_option linter.unusedSimpArgs false
set_option maxRecDepth 100000

theorem len_rest : ∀ (zs : List Int) (r : Nat), (restT r zs).length ≤ r + zs.length
  | [], r => by
    rw [restT_nil]
    by_cases h : r = 0
    · simp [h]
    · simp [h]; omega
  | z :: zs, r => by
    by_cases h0 : z = 0
    · subst h0
      have := len_rest zs (r + 1)
      rw [restT_zero, List.length_cons]; omega
    · have ih := len_rest zs 0
      rw [restT_cons r zs h0, List.length_append, List.length_replicate, List.length_cons, List.length_cons]
      omega
theorem toks_next {zs : List Int} {i : Nat} {x : Int} (r : Nat) (hx : zs[i]? = some x) : restT r (zs.drop i) = if x = 0 then restT (r + 1) (zs.drop (i + 1)) else List.replicate (r / 16) tkLong ++ tkN (r % 16) x :: restT 0 (zs.drop (i + 1)) := by
  obtain ⟨hi, e⟩ := List.getElem?_eq_some_iff.1 hx
  rw [List.drop_eq_getElem_cons hi, e]
  by_cases h : x = 0
  · rw [if_pos h, h, restT_zero]
  · rw [if_neg h, restT_cons r _ h]
end Go.Proofs.Ytbboakdfnjjddaa

/- The reader of a block's tokens out of any source. No program is named here. -/
namespace Go.Proofs.Ytbboakdfnjjddaa
set_option linter.unusedVariables false
set_option linter.unusedSimpArgs false
set_option maxRecDepth 100000
section
variable {σ : Type} (step : Bool → σ → Int ⊕ ((Int × Int × Int) × σ))
/-- k numbers out of a source: an error's code, the numbers, the tokens, what is left. -/
def gR : Nat → σ → Int × List Int × List (Int × Int × Int) × Option σ
  | 0, s => (0, [], [], some s)
  | k + 1, s =>
    match step false s with
    | .inl e => (e, [], [], none)
    | .inr (t, s2) =>
      if okT t = true then
        if t.1 = 0 then (0, List.replicate (k + 1) 0, [t], some s2)
        else if k + 1 < farT t then (4, [], [], none)
        else
          let d := gR (k + 1 - farT t) s2
          if d.1 = 0 then (0, List.replicate (farT t - 1) 0 ++ numT t :: d.2.1, t :: d.2.2.1, d.2.2.2) else (d.1, [], [], none)
      else (4, [], [], none)
termination_by k => k
decreasing_by unfold farT; omega
/-- Numbers read so far, and what is still to read. -/
def joinG (pre : List Int) (all : List (Int × Int × Int)) (d : Int × List Int × List (Int × Int × Int) × Option σ) : Int × List Int × List (Int × Int × Int) × Option σ :=
  if d.1 = 0 then (0, pre ++ d.2.1, all ++ d.2.2.1, d.2.2.2) else (d.1, [], [], none)
/-- Are they the tokens of the block? -/
def finG (before : Int) (d : Int × List Int × List (Int × Int × Int) × Option σ) : Int × List Int × List (Int × Int × Int) × Option σ :=
  if d.1 = 0 then (if toksZ before d.2.1 = d.2.2.1 then d else (4, [], [], none)) else d
def firstT (before : Int) (t : Int × Int × Int) : Prop := fitT t = true ∧ t.1 = t.2.1 ∧ -2047 ≤ before + numT t ∧ before + numT t ≤ 2047
instance (before : Int) (t : Int × Int × Int) : Decidable (firstT before t) := by unfold firstT; infer_instance
/-- A block out of a source. -/
def gB (before : Int) (s : σ) : Int × List Int × List (Int × Int × Int) × Option σ :=
  match step true s with
  | .inl e => (e, [], [], none)
  | .inr (t, s2) => if firstT before t then finG before (joinG [before + numT t] [t] (gR step 63 s2)) else (4, [], [], none)
variable {step}
theorem gB_none {before e : Int} {s : σ} (h : step true s = .inl e) : gB step before s = (e, [], [], none) := by unfold gB; rw [h]
theorem gB_bad {before : Int} {t : Int × Int × Int} {s s2 : σ} (h : step true s = .inr (t, s2)) (hf : ¬ firstT before t) : gB step before s = (4, [], [], none) := by unfold gB; rw [h]; simp only []; rw [if_neg hf]
theorem gB_go {before : Int} {t : Int × Int × Int} {s s2 : σ} (h : step true s = .inr (t, s2)) (hf : firstT before t) : gB step before s = finG before (joinG [before + numT t] [t] (gR step 63 s2)) := by unfold gB; rw [h]; simp only []; rw [if_pos hf]
theorem joinG_all (pre : List Int) (all : List (Int × Int × Int)) (s : σ) : joinG pre all (gR step 0 s) = (0, pre, all, some s) := by
  rw [gR]; unfold joinG; simp
theorem joinG_none (pre : List Int) (all : List (Int × Int × Int)) {k : Nat} {s : σ} {e : Int} (hk : 0 < k) (he : e ≠ 0) (h : step false s = .inl e) : joinG pre all (gR step k s) = (e, [], [], none) := by
  obtain ⟨k, rfl⟩ : ∃ j, k = j + 1 := ⟨k - 1, by omega⟩
  rw [gR, h]; unfold joinG; simp [he]
theorem joinG_bad (pre : List Int) (all : List (Int × Int × Int)) {k : Nat} {s s2 : σ} {t : Int × Int × Int} (hk : 0 < k) (h : step false s = .inr (t, s2)) (ht : okT t = false) : joinG pre all (gR step k s) = (4, [], [], none) := by
  obtain ⟨k, rfl⟩ : ∃ j, k = j + 1 := ⟨k - 1, by omega⟩
  rw [gR, h]; simp only []; rw [if_neg (by rw [ht]; decide)]; rfl
theorem joinG_end (pre : List Int) (all : List (Int × Int × Int)) {k : Nat} {s s2 : σ} {t : Int × Int × Int} (hk : 0 < k) (h : step false s = .inr (t, s2)) (ht : okT t = true) (h0 : t.1 = 0) : joinG pre all (gR step k s) = (0, pre ++ List.replicate k 0, all ++ [t], some s2) := by
  obtain ⟨k, rfl⟩ : ∃ j, k = j + 1 := ⟨k - 1, by omega⟩
  rw [gR, h]; simp only []; rw [if_pos ht, if_pos h0]; rfl
theorem joinG_far (pre : List Int) (all : List (Int × Int × Int)) {k : Nat} {s s2 : σ} {t : Int × Int × Int} (hk : 0 < k) (h : step false s = .inr (t, s2)) (ht : okT t = true) (h0 : t.1 ≠ 0) (hf : k < farT t) : joinG pre all (gR step k s) = (4, [], [], none) := by
  obtain ⟨k, rfl⟩ : ∃ j, k = j + 1 := ⟨k - 1, by omega⟩
  rw [gR, h]; simp only []; rw [if_pos ht, if_neg h0, if_pos hf]; rfl
theorem joinG_next (pre : List Int) (all : List (Int × Int × Int)) {k : Nat} {s s2 : σ} {t : Int × Int × Int} (h : step false s = .inr (t, s2)) (ht : okT t = true) (h0 : t.1 ≠ 0) (hf : farT t ≤ k) : joinG pre all (gR step k s) = joinG (pre ++ (List.replicate (farT t - 1) 0 ++ [numT t])) (all ++ [t]) (gR step (k - farT t) s2) := by
  have hp : 0 < farT t := by unfold farT; omega
  obtain ⟨k, rfl⟩ : ∃ j, k = j + 1 := ⟨k - 1, by omega⟩
  rw [gR, h]; simp only []
  rw [if_pos ht, if_neg h0, if_neg (by omega)]
  unfold joinG
  by_cases e : (gR step (k + 1 - farT t) s2).1 = 0
  · simp only [if_pos e, if_true]
    congr 2
    · simp
    · simp
  · simp only [if_neg e]
end
end Go.Proofs.Ytbboakdfnjjddaa

/- slices.Reverse over a row of numbers of the call's own: its contract. -/
namespace Go.Proofs.Ytbboakdfnjjddaa
open Go.RowKit
set_option linter.unusedVariables false
set_option linter.unusedSimpArgs false
set_option maxRecDepth 100000

/-- One cell of a row of the call's own, written. -/
theorem own_set {w : World} {B g : Nat} {e : TypeId} {n c : Nat} {xs : List Value} (h : w.ownsRow B e 1 (.slice (some ⟨g, 0, none⟩) n c) n xs) {i : Nat} (hi : i < n) (v : Value) :
    (w.setCell ⟨g, i, none⟩ v).ownsRow B e 1 (.slice (some ⟨g, 0, none⟩) n c) n (xs.set i v) := by
  obtain ⟨h1, h2⟩ := h
  refine ⟨by simpa using h1, ?_⟩
  rcases h2 with ⟨h2, _⟩ | ⟨g', cap, cur, hv, hg, hh, hn, hc, hs, ht⟩
  · cases h2
  · simp only [Value.slice.injEq, Option.some.injEq, Addr.mk.injEq] at hv
    obtain ⟨⟨rfl, _, _⟩, _, rfl⟩ := hv
    refine .inr ⟨g, c, cur.setIfInBounds i v, rfl, hg, heap_setCell_same w g i cur e v hh, hn, hc, by simpa using hs, ?_⟩
    rw [Array.toList_setIfInBounds, List.take_set, ht]
theorem own_cell {w : World} {B g : Nat} {e : TypeId} {n c : Nat} {xs : List Value} (h : w.ownsRow B e 1 (.slice (some ⟨g, 0, none⟩) n c) n xs) {i : Nat} {v : Value} (hv : xs[i]? = some v) : w.cell? ⟨g, i, none⟩ = some v ∧ w.frozen? ⟨g, i, none⟩ = false ∧ B ≤ g ∧ g < w.heap.size := by
  obtain ⟨h1, h2⟩ := h
  rcases h2 with ⟨h2, _⟩ | ⟨g', cap, cur, hv', hg, hh, hn, hc, hs, ht⟩
  · cases h2
  · simp only [Value.slice.injEq, Option.some.injEq, Addr.mk.injEq] at hv'
    obtain ⟨⟨rfl, _, _⟩, _, rfl⟩ := hv'
    refine ⟨?_, frozen_of_row w g i _ _ hh, hg, (Array.getElem?_eq_some_iff.1 hh).1⟩
    rw [cell_of_row w g i _ _ _ hh]
    have hi : i < n * 1 := by rw [← h1]; exact (List.getElem?_eq_some_iff.1 hv).1
    rw [← ht, List.getElem?_take, if_pos hi] at hv
    simpa using hv
/-- The ends up to i are exchanged. -/
def Turned (l ls : List Int) (i : Nat) : Prop := ls.length = l.length ∧ ∀ k : Nat, k < l.length → ls[k]? = if k < i ∨ l.length - 1 - i < k then l[l.length - 1 - k]? else l[k]?
theorem Turned.start (l : List Int) : Turned l l 0 := ⟨rfl, fun k hk => by rw [if_neg (by omega)]⟩
theorem Turned.next {l ls : List Int} {i : Nat} {x y : Int} (h : Turned l ls i) (hi : i < l.length - 1 - i) (hx : ls[i]? = some x) (hy : ls[l.length - 1 - i]? = some y) : Turned l ((ls.set i y).set (l.length - 1 - i) x) (i + 1) := by
  obtain ⟨h1, h2⟩ := h
  refine ⟨by simpa using h1, fun k hk => ?_⟩
  rw [List.getElem?_set, List.getElem?_set]
  by_cases e1 : l.length - 1 - i = k
  · subst e1
    rw [if_pos rfl, if_pos (by simp; omega), if_pos (by omega), ← hx, h2 i (by omega), if_neg (by omega)]
    congr 1; omega
  · rw [if_neg e1]
    by_cases e2 : i = k
    · subst e2
      rw [if_pos rfl, if_pos (by omega), if_pos (by omega), ← hy, h2 _ (by omega), if_neg (by omega)]
    · rw [if_neg e2, h2 k hk]
      by_cases e3 : k < i ∨ l.length - 1 - i < k
      · rw [if_pos e3, if_pos (by omega)]
      · rw [if_neg e3, if_neg (by omega)]
theorem Turned.done {l ls : List Int} {i : Nat} (h : Turned l ls i) (hi : ¬ (i : Int) < (l.length : Int) - 1 - (i : Int)) : ls = l.reverse := by
  obtain ⟨h1, h2⟩ := h
  apply List.ext_getElem?
  intro k
  by_cases hk : k < l.length
  · rw [h2 k hk, List.getElem?_reverse hk]
    by_cases e : k < i ∨ l.length - 1 - i < k
    · rw [if_pos e]
    · rw [if_neg e]; congr 1; omega
  · rw [List.getElem?_eq_none (by omega), List.getElem?_eq_none (by simp; omega)]
set_option maxHeartbeats 2000000 in
set_option maxRecDepth 100000 in
theorem reverse_any (g c B : Nat) (l : List Int) (w : World) (HO : Owns B [intRow 3 .i64 (.slice (some ⟨g, 0, none⟩) l.length c) l] w) (hl : l.length ≤ 1048576) :
    Calls Try.prog 128 #[.slice (some ⟨g, 0, none⟩) l.length c] w fun e w' => e = .returned (.tuple #[]) ∧ Owns B [intRow 3 .i64 (.slice (some ⟨g, 0, none⟩) l.length c) l.reverse] w' ∧ Below B w w' := by
  have HO0 := veil HO; clear HO
  go_enter Try.func128, Try.ntmps128
  go_wp2
  go_loopg [2, 3] l.length (fun gk s2 s3 wr => ∃ (i : Nat) (ls : List Int), s2 = .int .i64 (i : Int) ∧ s3 = .int .i64 ((l.length : Int) - 1 - (i : Int)) ∧ gk = l.length - i ∧ i ≤ l.length ∧ Hid (Turned l ls i) ∧ Hid (Owns B [intRow 3 .i64 (.slice (some ⟨g, 0, none⟩) l.length c) ls] wr) ∧ Hid (Below B w wr))
  case atStart => exact ⟨0, l, rfl, by go_num, rfl, by omega, Turned.start l, HO0, Below.refl _ _⟩
  case round =>
    clear HO0
    obtain ⟨i, ls, rfl, rfl, rfl, hi, HT, HO, HB⟩ := hrel
    by_cases hlt : (i : Int) < (l.length : Int) - 1 - (i : Int)
    · obtain ⟨j, hj⟩ : ∃ j : Nat, j = l.length - 1 - i := ⟨_, rfl⟩
      have hjz : (l.length : Int) - 1 - (i : Int) = (j : Int) := by omega
      have hll := HT.out.1
      obtain ⟨x, hx⟩ := some_at (xs := ls) (j := i) (by omega)
      obtain ⟨y, hy⟩ := some_at (xs := ls) (j := j) (by omega)
      obtain ⟨cx, fx, hBg, hgs⟩ := own_cell (by have := HO.out.head; simp only [intRow, hll] at this; exact this) (ints_at hx)
      obtain ⟨cy, fy, _, _⟩ := own_cell (by have := HO.out.head; simp only [intRow, hll] at this; exact this) (ints_at hy)
      have HN := veil (hj ▸ HT.out.next (by omega) hx (hj ▸ hy))
      have HO2 : Hid (Owns B [intRow 3 .i64 (.slice (some ⟨g, 0, none⟩) l.length c) ((ls.set i y).set j x)] ((wr.setCell ⟨g, i, none⟩ (.int .i64 y)).setCell ⟨g, j, none⟩ (.int .i64 x))) := by
        have h1 := HO.out.head
        simp only [intRow, hll] at h1
        have h2 := own_set (own_set h1 (i := i) (by omega) (.int .i64 y)) (i := j) (by omega) (.int .i64 x)
        refine Owns.one (by have := HO.out.base; simpa [World.setCell] using this) ?_
        simp only [intRow, List.length_set, hll, ints, List.map_set] at h2 ⊢
        exact h2
      have HB2 : Hid (Below B w ((wr.setCell ⟨g, i, none⟩ (.int .i64 y)).setCell ⟨g, j, none⟩ (.int .i64 x))) := (HB.out.setCell (by simpa using hBg) _).setCell (by simpa using hBg) _
      rw [hjz] at hlt
      have hne : ¬ i = j := by omega
      have hne2 : ¬ j = i := by omega
      have hjl : (j : Int) < (l.length : Int) := by omega
      have hil : (i : Int) < (l.length : Int) := by omega
      have Hj := veil hj
      have Hjz := veil hjz
      rw [hjz]
      clear HT HO HB hx hy hj hjz hll
      go_wp2_with fail
      go_big_region
      go_wp2
      go_roundg (l.length - (i + 1))
      case rel =>
        have := Hjz.out
        exact ⟨i + 1, (ls.set i y).set j x, by go_num, by go_num, rfl, by omega, HN, veil HO2.out.drew, veil HB2.out.drew⟩
      case measure => omega
    · go_wp2
      go_end0
      exact ⟨rfl, by rw [← HT.out.done (by omega)]; exact HO.out, HB.out⟩
end Go.Proofs.Ytbboakdfnjjddaa

/- zig.diagonal: its contract. -/
namespace Go.Proofs.Ytbboakdfnjjddaa
open Go.RowKit
set_option linter.unusedVariables false
set_option linter.unusedSimpArgs false
set_option maxRecDepth 100000

theorem elemZ : ElemOf Try.prog 23 3 1 8 := .mk' Try.underlying23 (z := .int .i64 0) (by kernel_rfl) rfl (by omega)
/-- The first n indices of diagonal s, from its top row on. -/
def ascD (s n : Nat) : List Int := (List.range n).map fun k => 8 * ((s - 7 + k : Nat) : Int) + (s : Int) - ((s - 7 + k : Nat) : Int)
def cntD (s : Nat) : Nat := min s 7 + 1 - (s - 7)
/-- Diagonal s, as the order visits it. -/
def diagL (s : Nat) : List Int := if s % 2 = 0 then (ascD s (cntD s)).reverse else ascD s (cntD s)
theorem ascD_succ (s n : Nat) : ascD s (n + 1) = ascD s n ++ [8 * ((s - 7 + n : Nat) : Int) + (s : Int) - ((s - 7 + n : Nat) : Int)] := by
  simp [ascD, List.range_succ]
theorem ascD_length (s n : Nat) : (ascD s n).length = n := by simp [ascD]
theorem own_some {w : World} {B : Nat} {v : Value} {l : List Int} {rs : List Row} (h : Owns B (intRow 3 .i64 v l :: rs) w) (hl : 0 < l.length) : ∃ g c, v = .slice (some ⟨g, 0, none⟩) l.length c := by
  obtain ⟨h1, h2⟩ := h.head
  rcases h2 with ⟨_, h2⟩ | ⟨g, cap, cur, hv, _⟩
  · simp only [intRow] at h2; omega
  · exact ⟨g, cap, hv⟩
set_option maxHeartbeats 2000000 in
set_option maxRecDepth 100000 in
theorem diag_any (s : Nat) (w : World) (hs : s ≤ 14) :
    Calls Try.prog 117 #[.int .i64 (s : Int)] w fun e w' => ∃ v, e = .returned v ∧ Owns w.heap.size [intRow 3 .i64 v (diagL s)] w' ∧ Below w.heap.size w w' := by
  have hc : cntD s = min s 7 + 1 - (s - 7) := rfl
  have hm : min s 7 ≤ s ∧ min s 7 ≤ 7 ∧ s - 7 ≤ min s 7 ∧ (min s 7 = s ∨ min s 7 = 7) := by omega
  generalize min s 7 = m at *
  go_enter Try.func117, Try.ntmps117
  go_wp2
  all_goals (
  go_loopg [3, 4] (m + 1 - (s - 7)) (fun gk v vr wr => ∃ r : Nat, gk = m + 1 - r ∧ s - 7 ≤ r ∧ r ≤ m + 1 ∧ vr = .int .i64 (r : Int) ∧ Hid (Owns w.heap.size [intRow 3 .i64 v (ascD s (r - (s - 7)))] wr) ∧ Hid (Below w.heap.size w wr))
  case atStart => exact ⟨s - 7, by omega, by omega, by omega, by go_num, veil (by rw [Nat.sub_self]; exact (Owns.start w).fresh _ _), veil (Below.refl _ _)⟩
  case round =>
    obtain ⟨r, rfl, hr1, hr2, rfl, HO, HB⟩ := hrel
    by_cases hlt : r ≤ m
    · have h7 : (r : Int) ≤ 7 := by omega
      have hs' : (r : Int) ≤ (s : Int) := by omega
      have hll := ascD_length s (r - (s - 7))
      have HL := veil (ascD_succ s (r - (s - 7)))
      generalize ascD s (r - (s - 7)) = l at *
      go_wp2_with (first
        | (at_builtin; go_loud (refine wpList_ownI _ rfl (.tmp 15) (.tmp 22) _ rfl w.heap.size 3 .i64 8 elemZ u3 l [] rfl HO.out [_] rfl (by unfold maxLen; simp; omega) (by simp; omega) ?_); intro v4 w4 HO4 hb4 hz4)
        | fail)
      all_goals (
      go_roundg (m + 1 - (r + 1))
      case rel => 
        refine ⟨r + 1, rfl, by omega, by omega, by go_num, veil ?_, veil (HB.out.trans hb4)⟩
        rw [show r + 1 - (s - 7) = r - (s - 7) + 1 by omega, HL.out, show s - 7 + (r - (s - 7)) = r by omega]
        exact HO4
      case measure => omega)
    · obtain rfl : r = m + 1 := by omega
      rw [← hc] at HO
      have h0 : 0 < (ascD s (cntD s)).length := by rw [ascD_length]; omega
      have hl8 : (ascD s (cntD s)).length ≤ 1048576 := by rw [ascD_length]; omega
      obtain ⟨g, c, rfl⟩ := own_some HO.out h0
      have HR := veil (fun w1 h1 => reverse_any g c w.heap.size (ascD s (cntD s)) w1 h1 hl8)
      have HD : Hid (diagL s = if s % 2 = 0 then (ascD s (cntD s)).reverse else ascD s (cntD s)) := rfl
      have hrm : ¬ ((m : Int) + 1 ≤ 7 ∧ (m : Int) + 1 ≤ (s : Int)) := by omega
      generalize ascD s (cntD s) = l at *
      by_cases he : s % 2 = 0
      · have het : ((s : Int).tmod 2 == 0) = true := by rw [Int.tmod_eq_emod_of_nonneg (by omega)]; simp; omega
        have hez : (s : Int).tmod 2 = 0 := by simpa using het
        go_wp2_with fail
        all_goals (
        refine (HR.out _ HO.out).mono ?_
        rintro e w2 ⟨rfl, HO2, hb2⟩
        go_wp2
        go_ret
        exact ⟨_, rfl, by rw [HD.out, if_pos he]; have h5 := HO2; unfold intRow at h5 ⊢; rw [List.length_reverse] at h5 ⊢; exact h5, HB.out.trans hb2⟩)
      · have het : ((s : Int).tmod 2 == 0) = false := by rw [Int.tmod_eq_emod_of_nonneg (by omega)]; simp; omega
        have hez : ¬ (s : Int).tmod 2 = 0 := by simpa using het
        go_wp2
        all_goals (
        go_ret
        exact ⟨_, rfl, by rw [HD.out, if_neg he]; exact HO.out, HB.out⟩))
end Go.Proofs.Ytbboakdfnjjddaa

/- zig.Order: its contract. -/
namespace Go.Proofs.Ytbboakdfnjjddaa
open Go.RowKit
set_option linter.unusedVariables false
set_option linter.unusedSimpArgs false
set_option maxRecDepth 100000

/-- The first s diagonals. -/
def zzTo (s : Nat) : List Int := (List.range s).flatMap diagL
/-- The zigzag order. -/
def zz : List Int := [0, 1, 8, 16, 9, 2, 3, 10, 17, 24, 32, 25, 18, 11, 4, 5, 12, 19, 26, 33, 40, 48, 41, 34, 27, 20, 13, 6, 7, 14, 21, 28, 35, 42, 49, 56, 57, 50, 43, 36, 29, 22, 15, 23, 30, 37, 44, 51, 58, 59, 52, 45, 38, 31, 39, 46, 53, 60, 61, 54, 47, 55, 62, 63]
theorem zzTo_all : zzTo 15 = zz := by decide +kernel
theorem zz_length : zz.length = 64 := rfl
theorem zzTo_succ (s : Nat) : zzTo (s + 1) = zzTo s ++ diagL s := by simp [zzTo, List.range_succ]
theorem diagL_length (s : Nat) : (diagL s).length ≤ 8 := by
  unfold diagL
  split
  · rw [List.length_reverse, ascD_length]; unfold cntD; omega
  · rw [ascD_length]; unfold cntD; omega
theorem zzTo_length (s : Nat) : (zzTo s).length ≤ 8 * s := by
  induction s with
  | zero => simp [zzTo]
  | succ s ih => rw [zzTo_succ, List.length_append]; have := diagL_length s; omega
theorem info_intZ : (Try.prog.info? 3).map (fun i => (i.zero, i.size, i.bytes)) = some (some (.int .i64 0), 1, 8) := by kernel_rfl
theorem run_make64 (u : World) : (Instr.makeSlice 23 (.int .i64 0) (.int .i64 64)).run Try.prog u =
    .ok (.slice (some ⟨u.heap.size, 0, none⟩) 0 64) (u.alloc (.cells (madeCells #[.int .i64 0] 64) 3)) := by
  obtain ⟨i0, hi, hz0, hz1, hz2⟩ := info_parts info_intZ
  have h := run_make (P := Try.prog) u 23 3 i0 (.int .i64 0) Try.underlying23 hi hz0 .i64 .i64 0 64 (by omega) (by omega) (by rw [hz2]; omega) (by omega)
  simpa [hz1, Value.cells] using h
set_option maxHeartbeats 2000000 in
set_option maxRecDepth 100000 in
theorem order_any (w : World) :
    Calls Try.prog 97 #[] w fun e w' => ∃ g c, e = .returned (.slice (some ⟨g, 0, none⟩) 64 c) ∧ Owns w.heap.size [intRow 3 .i64 (.slice (some ⟨g, 0, none⟩) 64 c) zz] w' ∧ Below w.heap.size w w' := by
  have hmk := run_make64
  have hst : Hid (Owns w.heap.size [intRow 3 .i64 (.slice (some ⟨w.heap.size, 0, none⟩) 0 64) (zzTo 0)] (w.alloc (.cells (madeCells #[.int .i64 0] 64) 3))) :=
    (Owns.start w).made 3 1 (madeCells #[.int .i64 0] 64) 64 (by unfold maxLen; omega) (size_madeCells _ _)
  generalize madeCells #[.int .i64 0] 64 = cs at *
  go_enter Try.func97, Try.ntmps97
  go_wp2
  clear hmk
  go_loopg [1, 4] 15 (fun gk v i wr => ∃ k : Nat, gk = 15 - k ∧ k ≤ 15 ∧ i = .int .i64 (k : Int) ∧ Hid (Owns w.heap.size [intRow 3 .i64 v (zzTo k)] wr) ∧ Hid (Below w.heap.size w wr))
  case atStart => exact ⟨0, rfl, by omega, rfl, hst, veil (below1 _ _)⟩
  case round =>
    clear hst
    obtain ⟨k, rfl, hk, rfl, HO, HB⟩ := hrel
    by_cases hlt : k < 15
    · have hltz : (k : Int) < 15 := by omega
      have HD := veil (fun w1 => diag_any k w1 (by omega))
      have hzl := zzTo_length k
      have hdl := diagL_length k
      have HS := veil (zzTo_succ k)
      generalize zzTo k = l at *
      generalize diagL k = d at *
      go_wp2_with fail
      refine (HD.out _).mono ?_
      rintro e w2 ⟨v2, rfl, HO2, hb2⟩
      obtain ⟨A, c, hv2, hsn, _, _⟩ := HO2.seen (List.mem_singleton.2 rfl)
      simp only [intRow] at hv2
      subst hv2
      have HO3 := (HO.out.call hb2 HO2).swap
      simp only [intRow] at hsn
      clear HD HO2
      go_wp2_with (first
        | (at_builtin; go_loud (refine wpList_ownV w2 rfl (.tmp 7) (.tmp 9) _ rfl w.heap.size 3 1 8 elemZ u1 l.length (ints .i64 l) _ rfl HO3 w2.heap.size A d.length c (ints .i64 d) rfl hsn (by rw [ints_length, Nat.mul_one]) ints_one (by unfold maxLen; omega) (by omega) ?_); intro v4 w4 HO4 hb4)
        | fail)
      go_roundg (15 - (k + 1))
      case rel => exact ⟨k + 1, rfl, by omega, by go_num, veil (by rw [HS.out, ← intRow_append]; exact HO4.swap.tail), veil ((HB.out.trans (hb2.mono HB.out.size)).trans hb4)⟩
      case measure => omega
    · obtain rfl : k = 15 := by omega
      rw [zzTo_all] at HO
      obtain ⟨g, c, rfl⟩ := own_some HO.out (by rw [zz_length]; omega)
      rw [zz_length] at HO
      go_wp2
      go_ret
      exact ⟨g, c, rfl, HO.out, HB.out⟩
end Go.Proofs.Ytbboakdfnjjddaa
