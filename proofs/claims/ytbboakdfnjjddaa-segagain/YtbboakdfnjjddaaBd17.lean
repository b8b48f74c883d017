/- Texts shared by the claims of this seat, in one. -/
import Derived.Test.YtbboakdfnjjddaaBd4
import Derived.Lib.Builder
import Derived.Lib.UnsafeStr
import Derived.Lib.AppendStr
import Derived.Laws.Externs
import Derived.Laws.DeepStrings4
import Derived.Test.YtbboakdfnjjddaaBd14
import Derived.Test.YtbboakdfnjjddaaBd8
import Derived.Test.YtbboakdfnjjddaaBd7
/- strings.Builder, over digits: what the reference writes into one and takes out of it. -/
namespace Go.Proofs.Ytbboakdfnjjddaa
open Go.RowKit
set_option linter.unusedVariables false
set_option linter.unusedSimpArgs false
set_option maxRecDepth 100000

/-- A builder of the call's own, in block b, that holds these digits. -/
def Bld (B b : Nat) (l : List Bool) (w : World) : Prop :=
  ∃ p v, (p = .pointer none ∨ p = .pointer (some ⟨b, 0, none⟩)) ∧ B ≤ b ∧ w.heap[b]? = some (.cells #[p, v] 77 (0, 0)) ∧
    w.ownsRow B 5 1 v l.length (Lib.strCells (txt l)) ∧ v.ownBlock ≠ some b ∧ (l = [] → v = .slice none 0 0)

theorem bld_new (w : World) : Bld w.heap.size w.heap.size [] (w.alloc (.cells #[.pointer none, .slice none 0 0] 77)) :=
  ⟨_, _, .inl rfl, Nat.le_refl _, heap_alloc_new w _, World.ownsRow_nil _ _ _ _, by simp [Value.ownBlock], fun _ => rfl⟩
theorem Bld.lt {B b : Nat} {l : List Bool} {w : World} (h : Bld B b l w) : b < w.heap.size := by
  obtain ⟨p, v, _, _, hb, _⟩ := h
  rcases Nat.lt_or_ge b w.heap.size with h' | h'
  · exact h'
  · rw [Array.getElem?_eq_none h'] at hb; cases hb
theorem Bld.below {B b : Nat} {l : List Bool} {w w' : World} (h : Bld B b l w) (hb : Below w.heap.size w w') : Bld B b l w' := by
  have hlt := h.lt
  obtain ⟨p, v, hp, hB, hh, hown, hne, h0⟩ := h
  exact ⟨p, v, hp, hB, by rw [hb.block b hlt]; exact hh, own_below hown hb, hne, h0⟩

theorem info_bld : (Try.prog.info? 77).map (fun i => i.size) = some 2 := by kernel_rfl
theorem lies_bld : liesAt Try.prog Try.prog.depth 77 (2 / Try.prog.cellsOf 77) 0 77 1 = true := by kernel_rfl

set_option maxHeartbeats 1000000 in
theorem copyCheck_used (b : Nat) (w : World) (h0 : w.cell? ⟨b, 0, none⟩ = some (.pointer (some ⟨b, 0, none⟩))) :
    Calls Try.prog 61 #[.pointer (some ⟨b, 0, none⟩)] w fun e w' => e = .returned (.tuple #[]) ∧ w = w' := by
  obtain ⟨j, hj, _⟩ := Option.map_eq_some_iff.1 info_bld
  go_enter Try.func61, Try.ntmps61
  go_wp2
  rw [Lib.run_neq_ptr_same w _ Try.underlying75 hj]
  go_wp2
  go_end0
  exact ⟨rfl, rfl⟩

set_option maxHeartbeats 1000000 in
theorem copyCheck_fresh (b : Nat) (w : World) (h0 : w.cell? ⟨b, 0, none⟩ = some (.pointer none)) (hsh : w.shape? b = some (77, 2)) (hfz : w.frozen? ⟨b, 0, none⟩ = false) :
    Calls Try.prog 61 #[.pointer (some ⟨b, 0, none⟩)] w fun e w' => e = .returned (.tuple #[]) ∧ w.setCell ⟨b, 0, none⟩ (.pointer (some ⟨b, 0, none⟩)) = w' := by
  obtain ⟨j, hj, hjs⟩ := Option.map_eq_some_iff.1 info_bld
  go_enter Try.func61, Try.ntmps61
  go_wp2
  rw [Lib.run_to_unsafe w ⟨b, 0, none⟩ Try.underlying75 Try.underlying145 hj (by rw [hjs]; decide) hsh (Nat.zero_lt_succ 1)]
  simp only [Result.andThen]
  rw [Oper.upon_value]
  go_wp2
  rw [run_callFunc_extern Try.func84 (by kernel_rfl) (by kernel_rfl) (by kernel_rfl) (e := Extern.AbiNoEscape.same) (by kernel_rfl)]
  rw [Lib.run_noEscape]
  simp only [Result.andThen]
  rw [Oper.upon_value]
  go_wp2
  rw [Lib.run_from_unsafe w ⟨b, 0, none⟩ Try.underlying145 Try.underlying75 hj hsh lies_bld]
  simp only [Result.andThen]
  rw [Oper.upon_value]
  go_wp2
  go_end0
  exact ⟨rfl, rfl⟩

/-- copyCheck: behind it the builder knows its own address; it holds what it held. -/
theorem copyCheck_any (B b : Nat) (l : List Bool) (w : World) (h : Bld B b l w) :
    Calls Try.prog 61 #[.pointer (some ⟨b, 0, none⟩)] w fun e w' => e = .returned (.tuple #[]) ∧
      (∃ v, w'.heap[b]? = some (.cells #[.pointer (some ⟨b, 0, none⟩), v] 77 (0, 0)) ∧ w'.ownsRow B 5 1 v l.length (Lib.strCells (txt l)) ∧ v.ownBlock ≠ some b ∧ (l = [] → v = .slice none 0 0)) ∧ Below B w w' := by
  obtain ⟨p, v, hp, hB, hh, hown, hne, h0⟩ := h
  have hat : Lib.BuilderAt 77 5 B b p (Lib.strCells (txt l)) w := ⟨hB, v, hh, by rw [Lib.strCells_length, txt_size]; exact hown, hne⟩
  rcases hp with rfl | rfl
  · refine (copyCheck_fresh b w hat.cell0 hat.shape hat.frozen0).mono ?_
    rintro e w' ⟨rfl, rfl⟩
    refine ⟨rfl, ⟨v, ?_, ?_, hne, h0⟩, (Below.refl B w).setCell (p := ⟨b, 0, none⟩) hB _⟩
    · simp [World.setCell, Array.getElem?_modify, hh]
    · obtain ⟨h1, h2⟩ := hown
      refine ⟨h1, ?_⟩
      rcases h2 with h2 | ⟨g, cap, cur, hv, hg, hh2, r⟩
      · exact .inl h2
      · refine .inr ⟨g, cap, cur, hv, hg, ?_, r⟩
        rw [Below.heap_setCell _ _ _ _ (by rintro rfl; exact hne (by rw [hv]; rfl))]
        exact hh2
  · refine (copyCheck_used b w hat.cell0).mono ?_
    rintro e w' ⟨rfl, rfl⟩
    exact ⟨rfl, ⟨v, hh, hown, hne, h0⟩, Below.refl B _⟩

theorem strCells_append (a b : List Bool) : Lib.strCells (txt a) ++ Lib.strCells (txt b) = Lib.strCells (txt (a ++ b)) := by
  rw [← txt_append]; simp [Lib.strCells]

set_option maxHeartbeats 2000000 in
theorem writeString_any (B b : Nat) (l m : List Bool) (w : World) (h : Bld B b l w) (hlen : l.length + m.length ≤ 140737488355328) (hBw : B ≤ w.heap.size) :
    Calls Try.prog 35 #[.pointer (some ⟨b, 0, none⟩), .string (txt m)] w fun e w' => e = .returned (.tuple #[.int .i64 (txt m).size, .nilIface]) ∧ Bld B b (l ++ m) w' ∧ Below B w w' := by
  obtain ⟨i0, hi, hz0, hz1, hz2⟩ := info_parts info_byte
  have hB : B ≤ b := by obtain ⟨_, _, _, hB, _⟩ := h; exact hB
  go_enter Try.func35, Try.ntmps35
  go_wp2_with fail
  refine (copyCheck_any B b l _ h).mono ?_
  rintro e w1 ⟨rfl, ⟨v, hbk, hown, hne, hnil⟩, hb1⟩
  have c0 : w1.cell? ⟨b, 0, none⟩ = some (.pointer (some ⟨b, 0, none⟩)) := by rw [Lib.cell_of_heap hbk]; rfl
  have c1 : w1.cell? ⟨b, 1, none⟩ = some v := by rw [Lib.cell_of_heap hbk]; rfl
  go_wp2_with (at_builtin; refine Lib.wpList_append_own_string _ rfl _ _ 37 9 rfl B 5 i0 Try.underlying37 Try.underlying9 hi hz0 hz1 hz2 _ _ _ rfl hown (txt m) rfl ?c3 ?c4 ?c5 ?_)
  case c3 => rw [txt_size]; unfold maxLen; omega
  case c4 => rw [txt_size]; omega
  case c5 => have := hb1.size; omega
  intro v' w2 hown' hgrow hn'
  have hlt : b < w1.heap.size := by
    rcases Nat.lt_or_ge b w1.heap.size with h' | h'
    · exact h'
    · simp [Array.getElem?_eq_none h'] at hbk
  have hb2 : w2.heap[b]? = some (.cells #[.pointer (some ⟨b, 0, none⟩), v] 77 (0, 0)) := by
    rw [hgrow.block b hlt (fun e => hne e.symm)]
    exact hbk
  have d0 : w2.cell? ⟨b, 0, none⟩ = some (.pointer (some ⟨b, 0, none⟩)) := by rw [Lib.cell_of_heap hb2]; rfl
  have d1 : w2.cell? ⟨b, 1, none⟩ = some v := by rw [Lib.cell_of_heap hb2]; rfl
  have f1 : w2.frozen? ⟨b, 1, none⟩ = false := Lib.frozen_of_heap hb2 1
  rw [strCells_append, txt_size, ← List.length_append] at hown'
  have hnil' : l ++ m = [] → v' = .slice none 0 0 := by
    intro e
    obtain ⟨e1, e2⟩ := List.append_eq_nil_iff.1 e
    exact hn'.2 ⟨hnil e1, by rw [e2]; rfl⟩
  have hne' := Lib.ownBlock_ne hown' hb2 (by decide)
  have Hnil := veil hnil'; have Hne := veil hne'
  clear hnil' hne' hnil hn' hne
  have hfin : Bld B b (l ++ m) (w2.setCell ⟨b, 1, none⟩ v') := by
    refine ⟨_, v', .inr rfl, hB, ?_, ?_, Hne.out, Hnil.out⟩
    · simp [World.setCell, Array.getElem?_modify, hb2]
    · obtain ⟨h1, h2⟩ := hown'
      refine ⟨h1, ?_⟩
      rcases h2 with h2 | ⟨g, cap, cur, hv, hg, hh2, r⟩
      · exact .inl h2
      · refine .inr ⟨g, cap, cur, hv, hg, ?_, r⟩
        rw [Below.heap_setCell _ _ _ _ (by rintro rfl; exact Hne.out (by rw [hv]; rfl))]
        exact hh2
  have hbf : Below B w (w2.setCell ⟨b, 1, none⟩ v') := (hb1.grown hgrow (by have := hb1.size; omega) (fun k hk => (hown.lt k hk).1)).setCell (p := ⟨b, 1, none⟩) hB _
  obtain ⟨ao, n', cap, rfl⟩ : ∃ ao n' cap, v' = .slice ao n' cap := by
    rcases hown'.2 with ⟨hv, _⟩ | ⟨g, cap, cur, hv, _⟩
    · exact ⟨_, _, _, hv⟩
    · exact ⟨_, _, _, hv⟩
  go_wp2
  go_ret2
  exact ⟨rfl, hfin, hbf⟩

set_option maxHeartbeats 2000000 in
theorem string_any (B b : Nat) (l : List Bool) (w : World) (h : Bld B b l w) :
    Calls Try.prog 39 #[.pointer (some ⟨b, 0, none⟩)] w fun e w' => e = .returned (.string (txt l)) ∧ Below B w w' := by
  obtain ⟨p, v, hp, hB, hbk, hown, hne, hnil⟩ := h
  by_cases h0 : l = []
  · obtain rfl := hnil h0
    subst h0
    have hUS := fun (W : World) (q : Option Addr) => Lib.run_unsafeString_none (P := Try.prog) W 120 3 9 q
    have c1 : w.drew.cell? ⟨b, 1, none⟩ = some (.slice none 0 0) := by
      have : w.drew.heap[b]? = some (.cells #[p, .slice none 0 0] 77 (0, 0)) := hbk
      rw [Lib.cell_of_heap this]; rfl
    have hSD : (Builtin.unsafeSliceData_ #[37] 120 #[.slice none 0 0]).run Try.prog w.drew = .ok (.pointer none) w.drew := rfl
    go_enter Try.func39, Try.ntmps39
    go_wp2
    go_region
    all_goals (go_wp2; go_ret; exact ⟨rfl, Below.drew (Below.refl B w)⟩)
  · have hl0 : l.length ≠ 0 := by simpa using h0
    obtain ⟨g, cap, cur, rfl, hbg, hg, hnc, hcm, hcs, htake⟩ : ∃ g cap cur, v = .slice (some ⟨g, 0, none⟩) l.length cap ∧ B ≤ g ∧ w.heap[g]? = some (.cells cur 5 (0, 0)) ∧ l.length ≤ cap ∧ cap ≤ maxLen ∧ cur.size = cap * 1 ∧ cur.toList.take (l.length * 1) = Lib.strCells (txt l) := by
      rcases hown.2 with ⟨_, hz⟩ | ⟨g, cap, cur, hv, r⟩
      · exact absurd hz hl0
      · exact ⟨g, cap, cur, hv, r⟩
    have c1 : w.drew.cell? ⟨b, 1, none⟩ = some (.slice (some ⟨g, 0, none⟩) l.length cap) := by
      have : w.drew.heap[b]? = some (.cells #[p, .slice (some ⟨g, 0, none⟩) l.length cap] 77 (0, 0)) := hbk
      rw [Lib.cell_of_heap this]; rfl
    have hSD : (Builtin.unsafeSliceData_ #[37] 120 #[.slice (some ⟨g, 0, none⟩) l.length cap]).run Try.prog w.drew = .ok (.pointer (some ⟨g, 0, none⟩)) w.drew :=
      Lib.run_unsafeSliceData_row _ _ _ _ _ _ (by omega)
    have hdl : (dig l).length = l.length := by simp [dig]
    have hUS : (Builtin.unsafeString_ #[120, 3] 9 #[.pointer (some ⟨g, 0, none⟩), .int .i64 l.length]).run Try.prog w.drew = .ok (.string (txt l)) (w.drew.freeze ⟨g, 0, none⟩ l.length) := by
      have hr := Lib.run_unsafeString_row (P := Try.prog) w.drew 120 3 9 5 Try.underlying120 (by kernel_rfl) g cur.size (by have hg' : w.drew.heap[g]? = some (.cells cur 5 (0, 0)) := hg; simp [World.shape?, hg']) (dig l) (by simpa [dig] using h0) (by omega) (by unfold maxLen at hcm; omega) (by
        intro j x hx
        exact hown.cells (g := g) rfl j (.int .u8 x.toNat) (by simp [Lib.strCells, txt, hx]))
      rw [hdl] at hr
      exact hr
    clear htake hcs
    go_enter Try.func39, Try.ntmps39
    go_wp2
    go_region
    all_goals (go_wp2; go_ret; exact ⟨rfl, Lib.below_freeze (Below.drew (Below.refl B w)) (p := ⟨g, 0, none⟩) hbg _⟩)
end Go.Proofs.Ytbboakdfnjjddaa

/- The reference's bytesOf: whole bytes out of binary digits, the rest ones. -/
namespace Go.Proofs.Ytbboakdfnjjddaa
open Go.RowKit
set_option linter.unusedVariables false
set_option linter.unusedSimpArgs false
set_option maxRecDepth 100000

theorem txt_extract (l : List Bool) (a b : Nat) : (txt l).extract a b = txt ((l.drop a).take (b - a)) := by
  apply ByteArray.ext
  simp [txt, dig, ByteArray.data_extract, List.map_take, List.map_drop]
theorem slice_txt (L : List Bool) (a b : Int) (ha : 0 ≤ a) (hab : a ≤ b) (hb : b ≤ L.length) (wx : World) :
    (Instr.slice 9 (.string (txt L)) (some (.int .i64 a)) (some (.int .i64 b)) none).run Try.prog wx = .ok (.string (txt ((L.drop a.toNat).take (b.toNat - a.toNat)))) wx := by
  rw [run_slice_string_if wx 9 (txt L) .i64 .i64 a b Try.underlying9, if_pos ⟨by omega, by rw [txt_size]; exact hb⟩, if_pos ⟨ha, hab⟩, txt_extract]
/-- How many ones are wanted. -/
def lack (n : Nat) : Nat := (8 - n % 8) % 8

set_option maxHeartbeats 1000000 in
theorem bytesOf_any (l : List Bool) (w : World) (hl : l.length ≤ 1000000) :
    Calls Try.prog 38 #[.string (txt l)] w fun e w' => ∃ v out, e = .returned v ∧ w'.ownsRow w.heap.size 5 1 v out.length (ints .u8 out) ∧ (Bytes out ∧ ∃ p, p < 8 ∧ unpack out = l ++ List.replicate p true) ∧ Below w.heap.size w w' := by
  go_enter Try.func38, Try.ntmps38
  go_wp2_with fail
  go_loopg [0] 8 (fun gk s wr => ∃ q : Nat, gk = 8 - q ∧ q ≤ lack l.length ∧ s = .string (txt (l ++ List.replicate q true)) ∧ w = wr)
  case atStart => exact ⟨0, rfl, Nat.zero_le _, by simp, rfl⟩
  case round =>
    obtain ⟨q, rfl, hq, rfl, rfl⟩ := hrel
    have hlk : lack l.length < 8 := Nat.mod_lt _ (by omega)
    have hsz : (txt (l ++ List.replicate q true)).size = l.length + q := by rw [txt_size]; simp
    have hone : (⟨#[49]⟩ : ByteArray) = txt [true] := rfl
    by_cases hlt : q < lack l.length
    · have hne : (((l.length : Int) + (q : Int)) % 8 != 0) = true := by rw [bne_iff_ne]; unfold lack at hlt; omega
      have hb2 : l.length + q + (txt [true]).size ≤ 9223372036854775807 := by rw [txt_size]; simp; omega
      go_wp2
      go_roundg (8 - (q + 1))
      case rel => exact ⟨q + 1, rfl, by omega, by rw [txt_append, List.append_assoc, ← List.replicate_succ'], rfl⟩
      case measure => omega
    · obtain rfl : q = lack l.length := by omega
      have hne : (((l.length : Int) + (lack l.length : Int)) % 8 != 0) = false := by simp; unfold lack; omega
      have hm : ∃ m, l.length + lack l.length = 8 * m := ⟨(l.length + lack l.length) / 8, by unfold lack; omega⟩
      obtain ⟨m, hm⟩ := hm
      generalize hL : l ++ List.replicate (lack l.length) true = L at *
      have hLl : L.length = 8 * m := by rw [← hL]; simp; omega
      have HL := veil hL; clear hL
      have Hm := veil hm; clear hm
      rw [Hm.out] at hsz
      have hne2 : ((8 * (m : Int)) % 8 != 0) = false := by simp
      have hmm : m ≤ 1000000 := by have := Hm.out; omega
      have hnat : ((l.length + lack l.length : Nat) : Int) = 8 * (m : Int) := by rw [Hm.out]; simp
      clear hne hlt hq hone
      go_wp2_with fail
      clear hnat hne2
      go_loopg [3, 4] m (fun gk v i wr => ∃ (k : Nat) (out : List Int), gk = m - k ∧ k ≤ m ∧ i = .int .i64 (8 * k : Nat) ∧ out.length = k ∧ Bytes out ∧ Hid (unpack out = L.take (8 * k)) ∧ wr.ownsRow w.heap.size 5 1 v out.length (ints .u8 out) ∧ Below w.heap.size w wr)
      case atStart => exact ⟨0, [], rfl, Nat.zero_le _, rfl, rfl, by simp [Bytes], rfl, World.ownsRow_nil _ _ _ _, Below.refl _ _⟩
      case round =>
        obtain ⟨k, out, rfl, hk, rfl, hol, hby, Hu, hown, hb⟩ := hrel
        have hB := hb.size
        by_cases hlt : k < m
        · have hlt' : (8 * (k : Int)) < 8 * (m : Int) := by omega
          have hsl := slice_txt L (8 * (k : Int)) (8 * (k : Int) + 8) (by omega) (by omega) (by omega)
          rw [show (8 * (k : Int)).toNat = 8 * k by omega, show (8 * (k : Int) + 8).toNat - 8 * k = 8 by omega] at hsl
          have hcut : ((L.drop (8 * k)).take 8).length = 8 := by simp; omega
          have hv := valB_lt ((L.drop (8 * k)).take 8)
          rw [hcut] at hv
          have hv2 : valB ((L.drop (8 * k)).take 8) ≤ 255 := by omega
          have Hol := veil hol; clear hol
          have hL2 : out.length ≤ 1000000 := by rw [Hol.out]; omega
          have Hsn : Hid (unpack (out ++ [(valB ((L.drop (8 * k)).take 8) : Int)]) = L.take (8 * (k + 1))) := by
            show unpack _ = _
            rw [unpack_snoc, Hu.out, Int.toNat_natCast]
            have e := bitsN_valB ((L.drop (8 * k)).take 8)
            rw [hcut] at e
            rw [e, show 8 * (k + 1) = 8 * k + 8 by omega, List.take_add]
          have Hcut := veil hcut
          clear hcut hv
          generalize (L.drop (8 * k)).take 8 = D at *
          go_wp2_with (first
            | (go_at_call 49; refine (fromBinary_any D _ (by rw [Hcut.out]; omega)).mono ?_; rintro e w1 ⟨rfl, hb1⟩)
            | (at_builtin; go_loud (refine wpList_app1 _ rfl (.tmp 17) (.tmp 25) _ rfl w.heap.size 5 .u8 1 Try.underlying37 info_byte _ out _ rfl (own_below hown hb1) rfl (by omega) (by omega) (Nat.le_trans hB hb1.size) ?_); intro v' w' hown' hbel' hsz'))
          go_roundg (m - (k + 1))
          case rel => exact ⟨k + 1, out ++ [(valB D : Int)], rfl, by omega, by go_num, by simp [Hol.out], hby.snoc (by omega), Hsn, hown', (hb.trans (hb1.mono hB)).trans hbel'⟩
          case measure => omega
        · obtain rfl : k = m := by omega
          go_wp2
          go_ret
          refine ⟨_, out, rfl, hown, ⟨hby, lack l.length, hlk, ?_⟩, hb⟩
          rw [Hu.out, ← HL.out, List.take_of_length_le]
          rw [HL.out]; omega
end Go.Proofs.Ytbboakdfnjjddaa

/- The reference's Stuff and Plain: the same contracts. -/
namespace Go.Proofs.Ytbboakdfnjjddaa
open Go.RowKit
set_option linter.unusedVariables false
set_option linter.unusedSimpArgs false
set_option maxRecDepth 100000

set_option maxHeartbeats 1000000 in
theorem refStuff_any (A : Option Addr) (c G : Nat) (bs : List Int) (w : World) (hb : Seen w G A (ints .u8 bs)) (hG : G ≤ w.heap.size) (hl : (stuffB bs).length ≤ 140737488355328) :
    Calls Try.prog 37 #[.slice A bs.length c] w fun e w' => ∃ v, e = .returned v ∧ Owns w.heap.size [byteRow v (stuffB bs)] w' ∧ Below w.heap.size w w' := by
  have hl0 : bs.length ≤ 140737488355328 := Nat.le_trans (length_le_stuffB bs) hl
  go_enter Try.func37, Try.ntmps37
  go_wp2_with fail
  go_loopg [3, 5, 8] bs.length (fun gk v x i wr => ∃ k : Nat, gk = bs.length - k ∧ k ≤ bs.length ∧ i = .int .i64 k ∧ Owns w.heap.size [byteRow v (stuffB (bs.take k))] wr ∧ Below w.heap.size w wr)
  case atStart => exact ⟨0, rfl, Nat.zero_le _, rfl, (Owns.start w).fresh _ _, Below.refl _ _⟩
  case round =>
    obtain ⟨k, rfl, hk, rfl, HO, hbel⟩ := hrel
    have hB := hbel.size
    by_cases hlt : k < bs.length
    · obtain ⟨g, o, x, rfl, hg, hx, h1⟩ := hb.int hlt
      have hroom := stuff_room hx
      have hsn := stuff_snoc hx
      have Hsn := veil hsn; clear hsn hx
      rw [← hbel.cell (by simp; omega)] at h1
      generalize stuffB (bs.take k) = out at *
      by_cases h255 : x = 255
      · subst h255
        have hs1 : (stuff1 255).length = 2 := rfl
        rw [hs1] at hroom
        go_wp2_with (first
          | (at_builtin; go_loud (refine wpList_ownI _ rfl (.tmp 12) (.tmp 14) _ rfl w.heap.size 5 .u8 1 elem_byte u3 out [] rfl HO [255] rfl (by unfold maxLen; simp; omega) (by simp; omega) ?_); intro v1 w1 HO1 hb1 hz1)
          | (at_builtin; go_loud (refine wpList_ownI _ rfl (.tmp 18) (.tmp 19) _ rfl w.heap.size 5 .u8 1 elem_byte v1 (out ++ [255]) [] rfl HO1 [0] rfl (by unfold maxLen; simp; omega) (by simp; omega) ?_); intro v2 w2 HO2 hb2 hz2))
        go_roundg (bs.length - (k + 1))
        case rel => exact ⟨k + 1, rfl, by omega, by go_num, by rw [Hsn.out]; simpa [stuff1] using HO2, (hbel.trans hb1).trans hb2⟩
        case measure => omega
      · have hb0 : (x == 255) = false := by simpa using h255
        have hs1 : stuff1 x = [x] := by unfold stuff1; rw [if_neg h255]
        have Hs1 := veil hs1
        rw [hs1] at hroom
        simp at hroom
        clear hs1 h255
        go_wp2_with (at_builtin; go_loud (refine wpList_ownI _ rfl (.tmp 12) (.tmp 14) _ rfl w.heap.size 5 .u8 1 elem_byte u3 out [] rfl HO [x] rfl (by unfold maxLen; simp; omega) (by simp; omega) ?_); intro v1 w1 HO1 hb1 hz1)
        go_roundg (bs.length - (k + 1))
        case rel => exact ⟨k + 1, rfl, by omega, by go_num, by rw [Hsn.out, Hs1.out]; exact HO1, hbel.trans hb1⟩
        case measure => omega
    · obtain rfl : k = bs.length := by omega
      rw [List.take_length] at HO
      go_wp2
      go_ret
      exact ⟨_, rfl, HO, hbel⟩

set_option maxHeartbeats 1000000 in
theorem refPlain_any (A : Option Addr) (c G : Nat) (bs : List Int) (w : World) (hb : Seen w G A (ints .u8 bs)) (hG : G ≤ w.heap.size) (hl : bs.length ≤ 140737488355328) :
    Calls Try.prog 44 #[.slice A bs.length c] w fun e w' => ∃ v, e = .returned (.tuple #[v, .int .i64 (plainErr bs)]) ∧ Owns w.heap.size [byteRow v (plainOut bs)] w' ∧ Below w.heap.size w w' := by
  go_enter Try.func44, Try.ntmps44
  go_wp2_with fail
  go_loopg [4, 5] bs.length (fun gk v i wr => ∃ (k : Nat) (acc : List Int), gk = bs.length - k ∧ k ≤ bs.length ∧ i = .int .i64 k ∧ Hid (PlInv bs k acc) ∧ acc.length ≤ k ∧ Owns w.heap.size [byteRow v acc] wr ∧ Below w.heap.size w wr)
  case atStart => exact ⟨0, [], rfl, Nat.zero_le _, rfl, veil (PlInv.start bs), Nat.zero_le _, (Owns.start w).fresh _ _, Below.refl _ _⟩
  case round =>
    obtain ⟨k, acc, rfl, hk, rfl, HI, hacc, HO, hbel⟩ := hrel
    have hB := hbel.size
    by_cases hlt : k < bs.length
    · obtain ⟨g, o, x, rfl, hg, hx, h1⟩ := hb.int hlt
      have Hx := veil hx; clear hx
      rw [← hbel.cell (by simp; omega)] at h1
      by_cases h255 : x = 255
      · subst h255
        by_cases hlast : k + 1 = bs.length
        · have hpn := HI.out.last Hx.out hlast
          have hpo := plain_none hpn
          have Ho := veil hpo.1; have He := veil hpo.2
          have hlast' : (k : Int) + 1 = (bs.length : Int) := by omega
          clear hpn hpo
          go_wp2_with (first
            | (at_builtin; go_loud (refine wpList_ownI _ rfl (.tmp 12) (.tmp 17) _ rfl w.heap.size 5 .u8 1 elem_byte u4 acc [] rfl HO [255] rfl (by unfold maxLen; simp; omega) (by simp; omega) ?_); intro v1 w1 HO1 hb1 hz1; have h1' := h1; rw [← hb1.cell (by simp; omega)] at h1'))
          go_ret2
          exact ⟨_, ret_two rfl (by rw [He.out]; rfl), by rw [Ho.out]; exact (Owns.nil (hbel.trans hb1).size).fresh _ _, hbel.trans hb1⟩
        · obtain ⟨g2, o2, y, e2, hg2, hy, h2⟩ := hb.int (k := k + 1) (by omega)
          injection e2 with e2
          injection e2 with e3 e4
          subst e3 e4
          have Hy := veil hy; clear hy
          rw [← hbel.cell (by simp; omega)] at h2
          have hne : ¬ ((k : Int) + 1 = (bs.length : Int)) := by omega
          have hlt2 : (k : Int) + 1 < (bs.length : Int) := by omega
          by_cases hy0 : y = 0
          · subst hy0
            go_wp2_with (first
              | (at_builtin; go_loud (refine wpList_ownI _ rfl (.tmp 12) (.tmp 17) _ rfl w.heap.size 5 .u8 1 elem_byte u4 acc [] rfl HO [255] rfl (by unfold maxLen; simp; omega) (by simp; omega) ?_); intro v1 w1 HO1 hb1 hz1; have h1' := h1; have h2' := h2; rw [← hb1.cell (by simp; omega)] at h1' h2'))
            go_roundg (bs.length - (k + 2))
            case rel => exact ⟨k + 2, _, rfl, by omega, by go_num, veil (HI.out.lead Hx.out Hy.out), by simp; omega, HO1, hbel.trans hb1⟩
            case measure => omega
          · have hpn := HI.out.bad Hx.out Hy.out hy0
            have hpo := plain_none hpn
            have Ho := veil hpo.1; have He := veil hpo.2
            have hyb : (y != 0) = true := by simpa using hy0
            clear hpn hpo hy0
            go_wp2_with (first
              | (at_builtin; go_loud (refine wpList_ownI _ rfl (.tmp 12) (.tmp 17) _ rfl w.heap.size 5 .u8 1 elem_byte u4 acc [] rfl HO [255] rfl (by unfold maxLen; simp; omega) (by simp; omega) ?_); intro v1 w1 HO1 hb1 hz1; have h1' := h1; have h2' := h2; rw [← hb1.cell (by simp; omega)] at h1' h2'))
            go_ret2
            exact ⟨_, ret_two rfl (by rw [He.out]; rfl), by rw [Ho.out]; exact (Owns.nil (hbel.trans hb1).size).fresh _ _, hbel.trans hb1⟩
      · have hxb : (x != 255) = true := by simpa using h255
        have hxb' : (x == 255) = false := by simpa using h255
        have H255 := veil h255; clear h255
        go_wp2_with (first
          | (at_builtin; go_loud (refine wpList_ownI _ rfl (.tmp 12) (.tmp 17) _ rfl w.heap.size 5 .u8 1 elem_byte u4 acc [] rfl HO [x] rfl (by unfold maxLen; simp; omega) (by simp; omega) ?_); intro v1 w1 HO1 hb1 hz1; have h1' := h1; rw [← hb1.cell (by simp; omega)] at h1'))
        go_roundg (bs.length - (k + 1))
        case rel => exact ⟨k + 1, _, rfl, by omega, by go_num, veil (HI.out.other Hx.out H255.out), by simp; omega, HO1, hbel.trans hb1⟩
        case measure => omega
    · obtain rfl : k = bs.length := by omega
      have hpo := plain_some HI.out.done
      have Ho := veil hpo.1; have He := veil hpo.2
      clear hpo
      go_wp2
      go_ret2
      exact ⟨_, ret_two rfl (by rw [He.out]; rfl), by rw [Ho.out]; exact HO, hbel⟩
end Go.Proofs.Ytbboakdfnjjddaa

/- strings.Builder once more: what WriteString may change beside. -/
namespace Go.Proofs.Ytbboakdfnjjddaa
open Go.RowKit
set_option linter.unusedVariables false
set_option linter.unusedSimpArgs false
set_option maxRecDepth 100000

/-- append of a text onto a row of the call's own: which block the new slice lies in. -/
theorem run_own_string2 {P : Program} (w : World) (base : Nat) (t u ty e : TypeId) (i : TypeInfo) (ht : P.underlying t = some (.slice e)) (hu : P.underlying u = some .string) (hi : P.info? e = some i) (hz : i.zero = some (.int .u8 0))
    (hsize : i.size = 1) (hby : i.bytes = 1) (v : Value) (n : Nat) (xs : List Value) (hown : w.ownsRow base e 1 v n xs) (s : ByteArray)
    (h63 : n + s.size ≤ maxLen) (hbytes : n + s.size ≤ 140737488355328) (hbase : base ≤ w.heap.size) :
    ∃ v' w', (Builtin.append_ #[t, u] ty #[v, .string s]).run P w = .ok v' w' ∧ w'.ownsRow base e 1 v' (n + s.size) (xs ++ Lib.strCells s) ∧ w.grownBy w' v.ownBlock ∧
      (v' = .slice none 0 0 ↔ v = .slice none 0 0 ∧ s.size = 0) ∧ ∀ g, v'.ownBlock = some g → v.ownBlock = some g ∨ w.heap.size ≤ g := by
  obtain ⟨v', w', hr, h2, h3, h4⟩ := Lib.run_append_own_string (P := P) w base t u ty e i ht hu hi hz hsize hby v n xs hown s h63 hbytes hbase
  refine ⟨v', w', hr, h2, h3, h4, ?_⟩
  have hxl : xs.length = n := by simpa using hown.1
  rcases hown.2 with ⟨hv, hn⟩ | ⟨g, cap, cur, hv, hbg, hg, hnc, hcm, hcs, htake⟩
  · obtain ⟨v2, w2, hr2, h22, _, _⟩ := Lib.run_append_own_string (P := P) w w.heap.size t u ty e i ht hu hi hz hsize hby v n xs ⟨hown.1, .inl ⟨hv, hn⟩⟩ s h63 hbytes (Nat.le_refl _)
    have e1 := hr.symm.trans hr2
    injection e1 with e1 e2
    subst e1
    exact fun g hg => .inr (h22.lt g hg).1
  · subst hv
    by_cases hroom : n + s.size ≤ cap
    · have hcs' : cur.size = cap := by simpa using hcs
      have hr2 := Lib.run_append_room_string (P := P) w t u ty e i ht hu hi hsize g n cap cur hg s hroom (by omega)
      have e1 := hr.symm.trans hr2
      injection e1 with e1 e2
      subst e1
      exact fun q hq => .inl hq
    · have holds : ∀ j u, xs[j]? = some u → w.cell? ((⟨g, 0, none⟩ : Addr).add j) = some u := hown.cells (g := g) rfl
      unfold maxLen at h63
      have hr2 := Lib.run_append_grow_string (P := P) w t u ty e i (.int .u8 0) ht hu hi hz ⟨g, 0, none⟩ n cap xs (by rw [hsize]; simpa using hxl) holds s (by omega) (by omega) (by rw [hby]; exact growslice_fits (by omega) (by omega))
      have e1 := hr.symm.trans hr2
      injection e1 with e1 e2
      subst e1
      exact fun q hq => by simp only [Value.ownBlock, Option.some.injEq] at hq; right; omega
theorem wpList_own_string2 {P : Program} {ops : Array Oper} {rest : List Oper} {o : Oper} {a : Act} {Q : Exit → Act → World → Prop} (w : World) (hgd : o.guard = none) (sl x : Operand) (t u : TypeId)
    (ho : o.op = .call { callee := .builtin .append, args := #[sl, x], argTypes := #[t, u] })
    (base : Nat) (e : TypeId) (i : TypeInfo) (ht : P.underlying t = some (.slice e)) (hu : P.underlying u = some .string) (hi : P.info? e = some i) (hz : i.zero = some (.int .u8 0))
    (hsize : i.size = 1) (hby : i.bytes = 1)
    (v : Value) (n : Nat) (xs : List Value) (hs : a.eval sl = v) (hown : w.ownsRow base e 1 v n xs) (s : ByteArray) (hx : a.eval x = .string s)
    (h63 : n + s.size ≤ maxLen) (hbytes : n + s.size ≤ 140737488355328) (hbase : base ≤ w.heap.size)
    (h : ∀ v' w', w'.ownsRow base e 1 v' (n + s.size) (xs ++ Lib.strCells s) → w.grownBy w' v.ownBlock → (v' = .slice none 0 0 ↔ v = .slice none 0 0 ∧ s.size = 0) → (∀ g, v'.ownBlock = some g → v.ownBlock = some g ∨ w.heap.size ≤ g) → wpList P ops Q rest (a.put o.dst v') w') : wpList P ops Q (o :: rest) a w := by
  refine wpList_plain hgd fun K hK => ?_
  obtain ⟨v', w', hr, h2, h3, h4, h5⟩ := run_own_string2 (P := P) w base t u o.type e i ht hu hi hz hsize hby v n xs hown s h63 hbytes hbase
  unfold Oper.wp execOp
  simp only [ho, resolve, invoke, builtin, Sem.run_bind, Sem.run_pure, Result.andThen_ok, List.map_toArray, List.map_cons, List.map_nil, hs, hx, hr]
  exact hK _ _ (h v' w' h2 h3 h4 h5)

/-- A builder of the call's own, in block b, its bytes' slice named. -/
def BldX (B b : Nat) (v : Value) (l : List Bool) (w : World) : Prop :=
  ∃ p, (p = .pointer none ∨ p = .pointer (some ⟨b, 0, none⟩)) ∧ B ≤ b ∧ w.heap[b]? = some (.cells #[p, v] 77 (0, 0)) ∧
    w.ownsRow B 5 1 v l.length (Lib.strCells (txt l)) ∧ v.ownBlock ≠ some b ∧ (l = [] → v = .slice none 0 0)
/-- The blocks that a builder lies in. -/
def bldF (b : Nat) (v : Value) (q : Nat) : Prop := q = b ∨ v.ownBlock = some q
theorem BldX.bld {B b : Nat} {v : Value} {l : List Bool} {w : World} (h : BldX B b v l w) : Bld B b l w := by
  obtain ⟨p, h⟩ := h
  exact ⟨p, v, h⟩
theorem Bld.x {B b : Nat} {l : List Bool} {w : World} (h : Bld B b l w) : ∃ v, BldX B b v l w := by
  obtain ⟨p, v, h⟩ := h
  exact ⟨v, p, h⟩
theorem BldX.lt {B b : Nat} {v : Value} {l : List Bool} {w : World} (h : BldX B b v l w) {q : Nat} (hq : bldF b v q) : B ≤ q ∧ q < w.heap.size := by
  have hlt := h.bld.lt
  obtain ⟨p, hp, hB, hh, hown, _⟩ := h
  rcases hq with rfl | hq
  · exact ⟨hB, hlt⟩
  · exact hown.lt q hq
theorem BldX.below {B b : Nat} {v : Value} {l : List Bool} {w w' : World} (h : BldX B b v l w) (hb : Below w.heap.size w w') : BldX B b v l w' := by
  have hlt := h.bld.lt
  obtain ⟨p, hp, hB, hh, hown, hne, h0⟩ := h
  exact ⟨p, hp, hB, by rw [hb.block b hlt]; exact hh, own_below hown hb, hne, h0⟩

theorem copyCheckX (B b : Nat) (v : Value) (l : List Bool) (w : World) (h : BldX B b v l w) :
    Calls Try.prog 61 #[.pointer (some ⟨b, 0, none⟩)] w fun e w' => e = .returned (.tuple #[]) ∧
      w'.heap[b]? = some (.cells #[.pointer (some ⟨b, 0, none⟩), v] 77 (0, 0)) ∧ w'.ownsRow B 5 1 v l.length (Lib.strCells (txt l)) ∧ w.grownBy w' (some b) := by
  obtain ⟨p, hp, hB, hh, hown, hne, h0⟩ := h
  have hat : Lib.BuilderAt 77 5 B b p (Lib.strCells (txt l)) w := ⟨hB, v, hh, by rw [Lib.strCells_length, txt_size]; exact hown, hne⟩
  rcases hp with rfl | rfl
  · refine (copyCheck_fresh b w hat.cell0 hat.shape hat.frozen0).mono ?_
    rintro e w' ⟨rfl, rfl⟩
    refine ⟨rfl, ?_, ?_, grown_setCell w b 0 _⟩
    · simp [World.setCell, Array.getElem?_modify, hh]
    · obtain ⟨h1, h2⟩ := hown
      refine ⟨h1, ?_⟩
      rcases h2 with h2 | ⟨g, cap, cur, hv, hg, hh2, r⟩
      · exact .inl h2
      · refine .inr ⟨g, cap, cur, hv, hg, ?_, r⟩
        rw [Below.heap_setCell _ _ _ _ (by rintro rfl; exact hne (by rw [hv]; rfl))]
        exact hh2
  · refine (copyCheck_used b w hat.cell0).mono ?_
    rintro e w' ⟨rfl, rfl⟩
    exact ⟨rfl, hh, hown, World.grownBy.refl _ _⟩

set_option maxHeartbeats 2000000 in
/-- WriteString: beside the builder's own blocks all that was there stands. -/
theorem writeString_x (B b : Nat) (v : Value) (l m : List Bool) (w : World) (h : BldX B b v l w) (hlen : l.length + m.length ≤ 140737488355328) (hBw : B ≤ w.heap.size) :
    Calls Try.prog 35 #[.pointer (some ⟨b, 0, none⟩), .string (txt m)] w fun e w' => e = .returned (.tuple #[.int .i64 (txt m).size, .nilIface]) ∧ ∃ v', BldX B b v' (l ++ m) w' ∧ Only (bldF b v) w w' ∧ ∀ q, bldF b v' q → bldF b v q ∨ w.heap.size ≤ q := by
  obtain ⟨i0, hi, hz0, hz1, hz2⟩ := info_parts info_byte
  obtain ⟨hB, hne, hnil⟩ : B ≤ b ∧ v.ownBlock ≠ some b ∧ (l = [] → v = .slice none 0 0) := by obtain ⟨_, _, h1, _, _, h2, h3⟩ := h; exact ⟨h1, h2, h3⟩
  go_enter Try.func35, Try.ntmps35
  go_wp2_with fail
  refine (copyCheckX B b v l _ h).mono ?_
  rintro e w1 ⟨rfl, hbk, hown, hg1⟩
  have c0 : w1.cell? ⟨b, 0, none⟩ = some (.pointer (some ⟨b, 0, none⟩)) := by rw [Lib.cell_of_heap hbk]; rfl
  have c1 : w1.cell? ⟨b, 1, none⟩ = some v := by rw [Lib.cell_of_heap hbk]; rfl
  go_wp2_with (at_builtin; refine wpList_own_string2 _ rfl _ _ 37 9 rfl B 5 i0 Try.underlying37 Try.underlying9 hi hz0 hz1 hz2 _ _ _ rfl hown (txt m) rfl ?c3 ?c4 ?c5 ?_)
  case c3 => rw [txt_size]; unfold maxLen; omega
  case c4 => rw [txt_size]; omega
  case c5 => have := hg1.size; omega
  intro v' w2 hown' hgrow hn' hblk
  have hlt : b < w1.heap.size := by
    rcases Nat.lt_or_ge b w1.heap.size with h' | h'
    · exact h'
    · simp [Array.getElem?_eq_none h'] at hbk
  have hb2 : w2.heap[b]? = some (.cells #[.pointer (some ⟨b, 0, none⟩), v] 77 (0, 0)) := by
    rw [hgrow.block b hlt (fun e => hne e.symm)]
    exact hbk
  have d0 : w2.cell? ⟨b, 0, none⟩ = some (.pointer (some ⟨b, 0, none⟩)) := by rw [Lib.cell_of_heap hb2]; rfl
  have d1 : w2.cell? ⟨b, 1, none⟩ = some v := by rw [Lib.cell_of_heap hb2]; rfl
  have f1 : w2.frozen? ⟨b, 1, none⟩ = false := Lib.frozen_of_heap hb2 1
  rw [strCells_append, txt_size, ← List.length_append] at hown'
  have hnil' : l ++ m = [] → v' = .slice none 0 0 := by
    intro e
    obtain ⟨e1, e2⟩ := List.append_eq_nil_iff.1 e
    exact hn'.2 ⟨hnil e1, by rw [e2]; rfl⟩
  have hne' := Lib.ownBlock_ne hown' hb2 (by decide)
  have Hnil := veil hnil'; have Hne := veil hne'
  clear hnil' hne' hnil hn' hne
  have hfin : BldX B b v' (l ++ m) (w2.setCell ⟨b, 1, none⟩ v') := by
    refine ⟨_, .inr rfl, hB, ?_, ?_, Hne.out, Hnil.out⟩
    · simp [World.setCell, Array.getElem?_modify, hb2]
    · obtain ⟨h1, h2⟩ := hown'
      refine ⟨h1, ?_⟩
      rcases h2 with h2 | ⟨g, cap, cur, hv, hg, hh2, r⟩
      · exact .inl h2
      · refine .inr ⟨g, cap, cur, hv, hg, ?_, r⟩
        rw [Below.heap_setCell _ _ _ _ (by rintro rfl; exact Hne.out (by rw [hv]; rfl))]
        exact hh2
  have hon : Only (bldF b v) w (w2.setCell ⟨b, 1, none⟩ v') :=
    ((Only.of_grown hg1 (fun g hg => .inl (.inl (by injection hg with hg; exact hg.symm)))).trans (Only.of_grown (F := bldF b v) hgrow (fun g hg => .inl (.inr hg))) (fun q hq => .inl hq)).trans (Only.of_grown (F := bldF b v) (grown_setCell w2 b 1 v') (fun g hg => .inl (.inl (by injection hg with hg; exact hg.symm)))) (fun q hq => .inl hq)
  have hsub : ∀ q, bldF b v' q → bldF b v q ∨ w.heap.size ≤ q := fun q hq => by
    rcases hq with hq | hq
    · exact .inl (.inl hq)
    · rcases hblk q hq with h9 | h9
      · exact .inl (.inr h9)
      · right; have := hg1.size; omega
  obtain ⟨ao, n', cap, rfl⟩ : ∃ ao n' cap, v' = .slice ao n' cap := by
    rcases hown'.2 with ⟨hv, _⟩ | ⟨g, cap, cur, hv, _⟩
    · exact ⟨_, _, _, hv⟩
    · exact ⟨_, _, _, hv⟩
  go_wp2
  go_ret2
  exact ⟨rfl, _, hfin, hon, hsub⟩
end Go.Proofs.Ytbboakdfnjjddaa
