/- Texts shared by the claims of this seat, in one. -/
import Derived.Test.YtddkhkpdbjjboaaBd3
import Derived.Laws.DeepStrings4
import Derived.Test.YtddkhkpdbjjboaaBd4
import Derived.Test.YtddkhkpdbjjboaaBd8
import Derived.Test.YtddkhkpdbjjboaaBd6
import Derived.Deep.DeepCutAuto
import Derived.Test.YtddkhkpdbjjboaaBd5
/- The reference's bytesOf: whole bytes out of binary digits, the rest ones. -/
namespace Go.Proofs.Ytddkhkpdbjjboaa
open Go.RowKit
set_option linter.unusedVariables false
set_option linter.unusedSimpArgs false
set_option maxRecDepth 100000

theorem txt_extract (l : List Bool) (a b : Nat) : (txt l).extract a b = txt ((l.drop a).take (b - a)) := by
  apply ByteArray.ext
  simp [txt, dig, ByteArray.data_extract, List.map_take, List.map_drop]
theorem slice_txt (L : List Bool) (a b : Int) (ha : 0 ≤ a) (hab : a ≤ b) (hb : b ≤ L.length) (wx : World) :
    (Instr.slice 9 (.string (txt L)) (some (.int .i64 a)) (some (.int .i64 b)) none).run Try.prog wx = .ok (.string (txt ((L.drop a.toNat).take (b.toNat - a.toNat)))) wx := by
  rw [run_slice_string_if wx 9 (txt L) .i64 .i64 a b Try.underlying9, if_pos ⟨by omega, by rw [txt_size]; exact hb⟩, if_pos ⟨ha, hab⟩, txt_extract]
/-- How many ones are wanted. -/
def lack (n : Nat) : Nat := (8 - n % 8) % 8

set_option maxHeartbeats 1000000 in
theorem bytesOf_any (l : List Bool) (w : World) (hl : l.length ≤ 1000000) :
    Calls Try.prog 47 #[.string (txt l)] w fun e w' => ∃ v out, e = .returned v ∧ w'.ownsRow w.heap.size 5 1 v out.length (ints .u8 out) ∧ (Bytes out ∧ ∃ p, p < 8 ∧ unpack out = l ++ List.replicate p true) ∧ Below w.heap.size w w' := by
  go_enter Try.func47, Try.ntmps47
  go_wp2_with fail
  go_loopg [0] 8 (fun gk s wr => ∃ q : Nat, gk = 8 - q ∧ q ≤ lack l.length ∧ s = .string (txt (l ++ List.replicate q true)) ∧ w = wr)
  case atStart => exact ⟨0, rfl, Nat.zero_le _, by simp, rfl⟩
  case round =>
    obtain ⟨q, rfl, hq, rfl, rfl⟩ := hrel
    have hlk : lack l.length < 8 := Nat.mod_lt _ (by omega)
    have hsz : (txt (l ++ List.replicate q true)).size = l.length + q := by rw [txt_size]; simp
    have hone : (⟨#[49]⟩ : ByteArray) = txt [true] := rfl
    by_cases hlt : q < lack l.length
    · have hne : (((l.length : Int) + (q : Int)) % 8 != 0) = true := by rw [bne_iff_ne]; unfold lack at hlt; omega
      have hb2 : l.length + q + (txt [true]).size ≤ 9223372036854775807 := by rw [txt_size]; simp; omega
      go_wp2
      go_roundg (8 - (q + 1))
      case rel => exact ⟨q + 1, rfl, by omega, by rw [txt_append, List.append_assoc, ← List.replicate_succ'], rfl⟩
      case measure => omega
    · obtain rfl : q = lack l.length := by omega
      have hne : (((l.length : Int) + (lack l.length : Int)) % 8 != 0) = false := by simp; unfold lack; omega
      have hm : ∃ m, l.length + lack l.length = 8 * m := ⟨(l.length + lack l.length) / 8, by unfold lack; omega⟩
      obtain ⟨m, hm⟩ := hm
      generalize hL : l ++ List.replicate (lack l.length) true = L at *
      have hLl : L.length = 8 * m := by rw [← hL]; simp; omega
      have HL := veil hL; clear hL
      have Hm := veil hm; clear hm
      rw [Hm.out] at hsz
      have hne2 : ((8 * (m : Int)) % 8 != 0) = false := by simp
      have hmm : m ≤ 1000000 := by have := Hm.out; omega
      have hnat : ((l.length + lack l.length : Nat) : Int) = 8 * (m : Int) := by rw [Hm.out]; simp
      clear hne hlt hq hone
      go_wp2_with fail
      clear hnat hne2
      go_loopg [3, 4] m (fun gk v i wr => ∃ (k : Nat) (out : List Int), gk = m - k ∧ k ≤ m ∧ i = .int .i64 (8 * k : Nat) ∧ out.length = k ∧ Bytes out ∧ Hid (unpack out = L.take (8 * k)) ∧ wr.ownsRow w.heap.size 5 1 v out.length (ints .u8 out) ∧ Below w.heap.size w wr)
      case atStart => exact ⟨0, [], rfl, Nat.zero_le _, rfl, rfl, by simp [Bytes], rfl, World.ownsRow_nil _ _ _ _, Below.refl _ _⟩
      case round =>
        obtain ⟨k, out, rfl, hk, rfl, hol, hby, Hu, hown, hb⟩ := hrel
        have hB := hb.size
        by_cases hlt : k < m
        · have hlt' : (8 * (k : Int)) < 8 * (m : Int) := by omega
          have hsl := slice_txt L (8 * (k : Int)) (8 * (k : Int) + 8) (by omega) (by omega) (by omega)
          rw [show (8 * (k : Int)).toNat = 8 * k by omega, show (8 * (k : Int) + 8).toNat - 8 * k = 8 by omega] at hsl
          have hcut : ((L.drop (8 * k)).take 8).length = 8 := by simp; omega
          have hv := valB_lt ((L.drop (8 * k)).take 8)
          rw [hcut] at hv
          have hv2 : valB ((L.drop (8 * k)).take 8) ≤ 255 := by omega
          have Hol := veil hol; clear hol
          have hL2 : out.length ≤ 1000000 := by rw [Hol.out]; omega
          have Hsn : Hid (unpack (out ++ [(valB ((L.drop (8 * k)).take 8) : Int)]) = L.take (8 * (k + 1))) := by
            show unpack _ = _
            rw [unpack_snoc, Hu.out, Int.toNat_natCast]
            have e := bitsN_valB ((L.drop (8 * k)).take 8)
            rw [hcut] at e
            rw [e, show 8 * (k + 1) = 8 * k + 8 by omega, List.take_add]
          have Hcut := veil hcut
          clear hcut hv
          generalize (L.drop (8 * k)).take 8 = D at *
          go_wp2_with (first
            | (go_at_call 71; refine (fromBinary_any D _ (by rw [Hcut.out]; omega)).mono ?_; rintro e w1 ⟨rfl, hb1⟩)
            | (at_builtin; go_loud (refine wpList_app1 _ rfl (.tmp 17) (.tmp 25) _ rfl w.heap.size 5 .u8 1 Try.underlying29 info_byte _ out _ rfl (own_below hown hb1) rfl (by omega) (by omega) (Nat.le_trans hB hb1.size) ?_); intro v' w' hown' hbel' hsz'))
          go_roundg (m - (k + 1))
          case rel => exact ⟨k + 1, out ++ [(valB D : Int)], rfl, by omega, by go_num, by simp [Hol.out], hby.snoc (by omega), Hsn, hown', (hb.trans (hb1.mono hB)).trans hbel'⟩
          case measure => omega
        · obtain rfl : k = m := by omega
          go_wp2
          go_ret
          refine ⟨_, out, rfl, hown, ⟨hby, lack l.length, hlk, ?_⟩, hb⟩
          rw [Hu.out, ← HL.out, List.take_of_length_le]
          rw [HL.out]; omega
end Go.Proofs.Ytddkhkpdbjjboaa

/- The reference's Stuff and Plain: the same contracts. -/
namespace Go.Proofs.Ytddkhkpdbjjboaa
open Go.RowKit
set_option linter.unusedVariables false
set_option linter.unusedSimpArgs false
set_option maxRecDepth 100000

set_option maxHeartbeats 1000000 in
theorem refStuff_any (A : Option Addr) (c G : Nat) (bs : List Int) (w : World) (hb : Seen w G A (ints .u8 bs)) (hG : G ≤ w.heap.size) (hl : (stuffB bs).length ≤ 140737488355328) :
    Calls Try.prog 46 #[.slice A bs.length c] w fun e w' => ∃ v, e = .returned v ∧ Owns w.heap.size [byteRow v (stuffB bs)] w' ∧ Below w.heap.size w w' := by
  have hl0 : bs.length ≤ 140737488355328 := Nat.le_trans (length_le_stuffB bs) hl
  go_enter Try.func46, Try.ntmps46
  go_wp2_with fail
  go_loopg [3, 5, 8] bs.length (fun gk v x i wr => ∃ k : Nat, gk = bs.length - k ∧ k ≤ bs.length ∧ i = .int .i64 k ∧ Owns w.heap.size [byteRow v (stuffB (bs.take k))] wr ∧ Below w.heap.size w wr)
  case atStart => exact ⟨0, rfl, Nat.zero_le _, rfl, (Owns.start w).fresh _ _, Below.refl _ _⟩
  case round =>
    obtain ⟨k, rfl, hk, rfl, HO, hbel⟩ := hrel
    have hB := hbel.size
    by_cases hlt : k < bs.length
    · obtain ⟨g, o, x, rfl, hg, hx, h1⟩ := hb.int hlt
      have hroom := stuff_room hx
      have hsn := stuff_snoc hx
      have Hsn := veil hsn; clear hsn hx
      rw [← hbel.cell (by simp; omega)] at h1
      generalize stuffB (bs.take k) = out at *
      by_cases h255 : x = 255
      · subst h255
        have hs1 : (stuff1 255).length = 2 := rfl
        rw [hs1] at hroom
        go_wp2_with (first
          | (at_builtin; go_loud (refine wpList_ownI _ rfl (.tmp 12) (.tmp 14) _ rfl w.heap.size 5 .u8 1 elem_byte u3 out [] rfl HO [255] rfl (by unfold maxLen; simp; omega) (by simp; omega) ?_); intro v1 w1 HO1 hb1 hz1)
          | (at_builtin; go_loud (refine wpList_ownI _ rfl (.tmp 18) (.tmp 19) _ rfl w.heap.size 5 .u8 1 elem_byte v1 (out ++ [255]) [] rfl HO1 [0] rfl (by unfold maxLen; simp; omega) (by simp; omega) ?_); intro v2 w2 HO2 hb2 hz2))
        go_roundg (bs.length - (k + 1))
        case rel => exact ⟨k + 1, rfl, by omega, by go_num, by rw [Hsn.out]; simpa [stuff1] using HO2, (hbel.trans hb1).trans hb2⟩
        case measure => omega
      · have hb0 : (x == 255) = false := by simpa using h255
        have hs1 : stuff1 x = [x] := by unfold stuff1; rw [if_neg h255]
        have Hs1 := veil hs1
        rw [hs1] at hroom
        simp at hroom
        clear hs1 h255
        go_wp2_with (at_builtin; go_loud (refine wpList_ownI _ rfl (.tmp 12) (.tmp 14) _ rfl w.heap.size 5 .u8 1 elem_byte u3 out [] rfl HO [x] rfl (by unfold maxLen; simp; omega) (by simp; omega) ?_); intro v1 w1 HO1 hb1 hz1)
        go_roundg (bs.length - (k + 1))
        case rel => exact ⟨k + 1, rfl, by omega, by go_num, by rw [Hsn.out, Hs1.out]; exact HO1, hbel.trans hb1⟩
        case measure => omega
    · obtain rfl : k = bs.length := by omega
      rw [List.take_length] at HO
      go_wp2
      go_ret
      exact ⟨_, rfl, HO, hbel⟩

end Go.Proofs.Ytddkhkpdbjjboaa

/- strings.Builder once more: what WriteString may change beside. -/
namespace Go.Proofs.Ytddkhkpdbjjboaa
open Go.RowKit
set_option linter.unusedVariables false
set_option linter.unusedSimpArgs false
set_option maxRecDepth 100000

/-- append of a text onto a row of the call's own: which block the new slice lies in. -/
theorem run_own_string2 {P : Program} (w : World) (base : Nat) (t u ty e : TypeId) (i : TypeInfo) (ht : P.underlying t = some (.slice e)) (hu : P.underlying u = some .string) (hi : P.info? e = some i) (hz : i.zero = some (.int .u8 0))
    (hsize : i.size = 1) (hby : i.bytes = 1) (v : Value) (n : Nat) (xs : List Value) (hown : w.ownsRow base e 1 v n xs) (s : ByteArray)
    (h63 : n + s.size ≤ maxLen) (hbytes : n + s.size ≤ 140737488355328) (hbase : base ≤ w.heap.size) :
    ∃ v' w', (Builtin.append_ #[t, u] ty #[v, .string s]).run P w = .ok v' w' ∧ w'.ownsRow base e 1 v' (n + s.size) (xs ++ Lib.strCells s) ∧ w.grownBy w' v.ownBlock ∧
      (v' = .slice none 0 0 ↔ v = .slice none 0 0 ∧ s.size = 0) ∧ ∀ g, v'.ownBlock = some g → v.ownBlock = some g ∨ w.heap.size ≤ g := by
  obtain ⟨v', w', hr, h2, h3, h4⟩ := Lib.run_append_own_string (P := P) w base t u ty e i ht hu hi hz hsize hby v n xs hown s h63 hbytes hbase
  refine ⟨v', w', hr, h2, h3, h4, ?_⟩
  have hxl : xs.length = n := by simpa using hown.1
  rcases hown.2 with ⟨hv, hn⟩ | ⟨g, cap, cur, hv, hbg, hg, hnc, hcm, hcs, htake⟩
  · obtain ⟨v2, w2, hr2, h22, _, _⟩ := Lib.run_append_own_string (P := P) w w.heap.size t u ty e i ht hu hi hz hsize hby v n xs ⟨hown.1, .inl ⟨hv, hn⟩⟩ s h63 hbytes (Nat.le_refl _)
    have e1 := hr.symm.trans hr2
    injection e1 with e1 e2
    subst e1
    exact fun g hg => .inr (h22.lt g hg).1
  · subst hv
    by_cases hroom : n + s.size ≤ cap
    · have hcs' : cur.size = cap := by simpa using hcs
      have hr2 := Lib.run_append_room_string (P := P) w t u ty e i ht hu hi hsize g n cap cur hg s hroom (by omega)
      have e1 := hr.symm.trans hr2
      injection e1 with e1 e2
      subst e1
      exact fun q hq => .inl hq
    · have holds : ∀ j u, xs[j]? = some u → w.cell? ((⟨g, 0, none⟩ : Addr).add j) = some u := hown.cells (g := g) rfl
      unfold maxLen at h63
      have hr2 := Lib.run_append_grow_string (P := P) w t u ty e i (.int .u8 0) ht hu hi hz ⟨g, 0, none⟩ n cap xs (by rw [hsize]; simpa using hxl) holds s (by omega) (by omega) (by rw [hby]; exact growslice_fits (by omega) (by omega))
      have e1 := hr.symm.trans hr2
      injection e1 with e1 e2
      subst e1
      exact fun q hq => by simp only [Value.ownBlock, Option.some.injEq] at hq; right; omega
theorem wpList_own_string2 {P : Program} {ops : Array Oper} {rest : List Oper} {o : Oper} {a : Act} {Q : Exit → Act → World → Prop} (w : World) (hgd : o.guard = none) (sl x : Operand) (t u : TypeId)
    (ho : o.op = .call { callee := .builtin .append, args := #[sl, x], argTypes := #[t, u] })
    (base : Nat) (e : TypeId) (i : TypeInfo) (ht : P.underlying t = some (.slice e)) (hu : P.underlying u = some .string) (hi : P.info? e = some i) (hz : i.zero = some (.int .u8 0))
    (hsize : i.size = 1) (hby : i.bytes = 1)
    (v : Value) (n : Nat) (xs : List Value) (hs : a.eval sl = v) (hown : w.ownsRow base e 1 v n xs) (s : ByteArray) (hx : a.eval x = .string s)
    (h63 : n + s.size ≤ maxLen) (hbytes : n + s.size ≤ 140737488355328) (hbase : base ≤ w.heap.size)
    (h : ∀ v' w', w'.ownsRow base e 1 v' (n + s.size) (xs ++ Lib.strCells s) → w.grownBy w' v.ownBlock → (v' = .slice none 0 0 ↔ v = .slice none 0 0 ∧ s.size = 0) → (∀ g, v'.ownBlock = some g → v.ownBlock = some g ∨ w.heap.size ≤ g) → wpList P ops Q rest (a.put o.dst v') w') : wpList P ops Q (o :: rest) a w := by
  refine wpList_plain hgd fun K hK => ?_
  obtain ⟨v', w', hr, h2, h3, h4, h5⟩ := run_own_string2 (P := P) w base t u o.type e i ht hu hi hz hsize hby v n xs hown s h63 hbytes hbase
  unfold Oper.wp execOp
  simp only [ho, resolve, invoke, builtin, Sem.run_bind, Sem.run_pure, Result.andThen_ok, List.map_toArray, List.map_cons, List.map_nil, hs, hx, hr]
  exact hK _ _ (h v' w' h2 h3 h4 h5)

/-- A builder of the call's own, in block b, its bytes' slice named. -/
def BldX (B b : Nat) (v : Value) (l : List Bool) (w : World) : Prop :=
  ∃ p, (p = .pointer none ∨ p = .pointer (some ⟨b, 0, none⟩)) ∧ B ≤ b ∧ w.heap[b]? = some (.cells #[p, v] 88 (0, 0)) ∧
    w.ownsRow B 5 1 v l.length (Lib.strCells (txt l)) ∧ v.ownBlock ≠ some b ∧ (l = [] → v = .slice none 0 0)
/-- The blocks that a builder lies in. -/
def bldF (b : Nat) (v : Value) (q : Nat) : Prop := q = b ∨ v.ownBlock = some q
theorem BldX.bld {B b : Nat} {v : Value} {l : List Bool} {w : World} (h : BldX B b v l w) : Bld B b l w := by
  obtain ⟨p, h⟩ := h
  exact ⟨p, v, h⟩
theorem Bld.x {B b : Nat} {l : List Bool} {w : World} (h : Bld B b l w) : ∃ v, BldX B b v l w := by
  obtain ⟨p, v, h⟩ := h
  exact ⟨v, p, h⟩
theorem BldX.lt {B b : Nat} {v : Value} {l : List Bool} {w : World} (h : BldX B b v l w) {q : Nat} (hq : bldF b v q) : B ≤ q ∧ q < w.heap.size := by
  have hlt := h.bld.lt
  obtain ⟨p, hp, hB, hh, hown, _⟩ := h
  rcases hq with rfl | hq
  · exact ⟨hB, hlt⟩
  · exact hown.lt q hq
theorem BldX.below {B b : Nat} {v : Value} {l : List Bool} {w w' : World} (h : BldX B b v l w) (hb : Below w.heap.size w w') : BldX B b v l w' := by
  have hlt := h.bld.lt
  obtain ⟨p, hp, hB, hh, hown, hne, h0⟩ := h
  exact ⟨p, hp, hB, by rw [hb.block b hlt]; exact hh, own_below hown hb, hne, h0⟩

theorem copyCheckX (B b : Nat) (v : Value) (l : List Bool) (w : World) (h : BldX B b v l w) :
    Calls Try.prog 70 #[.pointer (some ⟨b, 0, none⟩)] w fun e w' => e = .returned (.tuple #[]) ∧
      w'.heap[b]? = some (.cells #[.pointer (some ⟨b, 0, none⟩), v] 88 (0, 0)) ∧ w'.ownsRow B 5 1 v l.length (Lib.strCells (txt l)) ∧ w.grownBy w' (some b) := by
  obtain ⟨p, hp, hB, hh, hown, hne, h0⟩ := h
  have hat : Lib.BuilderAt 88 5 B b p (Lib.strCells (txt l)) w := ⟨hB, v, hh, by rw [Lib.strCells_length, txt_size]; exact hown, hne⟩
  rcases hp with rfl | rfl
  · refine (copyCheck_fresh b w hat.cell0 hat.shape hat.frozen0).mono ?_
    rintro e w' ⟨rfl, rfl⟩
    refine ⟨rfl, ?_, ?_, grown_setCell w b 0 _⟩
    · simp [World.setCell, Array.getElem?_modify, hh]
    · obtain ⟨h1, h2⟩ := hown
      refine ⟨h1, ?_⟩
      rcases h2 with h2 | ⟨g, cap, cur, hv, hg, hh2, r⟩
      · exact .inl h2
      · refine .inr ⟨g, cap, cur, hv, hg, ?_, r⟩
        rw [Below.heap_setCell _ _ _ _ (by rintro rfl; exact hne (by rw [hv]; rfl))]
        exact hh2
  · refine (copyCheck_used b w hat.cell0).mono ?_
    rintro e w' ⟨rfl, rfl⟩
    exact ⟨rfl, hh, hown, World.grownBy.refl _ _⟩

set_option maxHeartbeats 2000000 in
/-- WriteString: beside the builder's own blocks all that was there stands. -/
theorem writeString_x (B b : Nat) (v : Value) (l m : List Bool) (w : World) (h : BldX B b v l w) (hlen : l.length + m.length ≤ 140737488355328) (hBw : B ≤ w.heap.size) :
    Calls Try.prog 44 #[.pointer (some ⟨b, 0, none⟩), .string (txt m)] w fun e w' => e = .returned (.tuple #[.int .i64 (txt m).size, .nilIface]) ∧ ∃ v', BldX B b v' (l ++ m) w' ∧ Only (bldF b v) w w' ∧ ∀ q, bldF b v' q → bldF b v q ∨ w.heap.size ≤ q := by
  obtain ⟨i0, hi, hz0, hz1, hz2⟩ := info_parts info_byte
  obtain ⟨hB, hne, hnil⟩ : B ≤ b ∧ v.ownBlock ≠ some b ∧ (l = [] → v = .slice none 0 0) := by obtain ⟨_, _, h1, _, _, h2, h3⟩ := h; exact ⟨h1, h2, h3⟩
  go_enter Try.func44, Try.ntmps44
  go_wp2_with fail
  refine (copyCheckX B b v l _ h).mono ?_
  rintro e w1 ⟨rfl, hbk, hown, hg1⟩
  have c0 : w1.cell? ⟨b, 0, none⟩ = some (.pointer (some ⟨b, 0, none⟩)) := by rw [Lib.cell_of_heap hbk]; rfl
  have c1 : w1.cell? ⟨b, 1, none⟩ = some v := by rw [Lib.cell_of_heap hbk]; rfl
  go_wp2_with (at_builtin; refine wpList_own_string2 _ rfl _ _ 29 9 rfl B 5 i0 Try.underlying29 Try.underlying9 hi hz0 hz1 hz2 _ _ _ rfl hown (txt m) rfl ?c3 ?c4 ?c5 ?_)
  case c3 => rw [txt_size]; unfold maxLen; omega
  case c4 => rw [txt_size]; omega
  case c5 => have := hg1.size; omega
  intro v' w2 hown' hgrow hn' hblk
  have hlt : b < w1.heap.size := by
    rcases Nat.lt_or_ge b w1.heap.size with h' | h'
    · exact h'
    · simp [Array.getElem?_eq_none h'] at hbk
  have hb2 : w2.heap[b]? = some (.cells #[.pointer (some ⟨b, 0, none⟩), v] 88 (0, 0)) := by
    rw [hgrow.block b hlt (fun e => hne e.symm)]
    exact hbk
  have d0 : w2.cell? ⟨b, 0, none⟩ = some (.pointer (some ⟨b, 0, none⟩)) := by rw [Lib.cell_of_heap hb2]; rfl
  have d1 : w2.cell? ⟨b, 1, none⟩ = some v := by rw [Lib.cell_of_heap hb2]; rfl
  have f1 : w2.frozen? ⟨b, 1, none⟩ = false := Lib.frozen_of_heap hb2 1
  rw [strCells_append, txt_size, ← List.length_append] at hown'
  have hnil' : l ++ m = [] → v' = .slice none 0 0 := by
    intro e
    obtain ⟨e1, e2⟩ := List.append_eq_nil_iff.1 e
    exact hn'.2 ⟨hnil e1, by rw [e2]; rfl⟩
  have hne' := Lib.ownBlock_ne hown' hb2 (by decide)
  have Hnil := veil hnil'; have Hne := veil hne'
  clear hnil' hne' hnil hn' hne
  have hfin : BldX B b v' (l ++ m) (w2.setCell ⟨b, 1, none⟩ v') := by
    refine ⟨_, .inr rfl, hB, ?_, ?_, Hne.out, Hnil.out⟩
    · simp [World.setCell, Array.getElem?_modify, hb2]
    · obtain ⟨h1, h2⟩ := hown'
      refine ⟨h1, ?_⟩
      rcases h2 with h2 | ⟨g, cap, cur, hv, hg, hh2, r⟩
      · exact .inl h2
      · refine .inr ⟨g, cap, cur, hv, hg, ?_, r⟩
        rw [Below.heap_setCell _ _ _ _ (by rintro rfl; exact Hne.out (by rw [hv]; rfl))]
        exact hh2
  have hon : Only (bldF b v) w (w2.setCell ⟨b, 1, none⟩ v') :=
    ((Only.of_grown hg1 (fun g hg => .inl (.inl (by injection hg with hg; exact hg.symm)))).trans (Only.of_grown (F := bldF b v) hgrow (fun g hg => .inl (.inr hg))) (fun q hq => .inl hq)).trans (Only.of_grown (F := bldF b v) (grown_setCell w2 b 1 v') (fun g hg => .inl (.inl (by injection hg with hg; exact hg.symm)))) (fun q hq => .inl hq)
  have hsub : ∀ q, bldF b v' q → bldF b v q ∨ w.heap.size ≤ q := fun q hq => by
    rcases hq with hq | hq
    · exact .inl (.inl hq)
    · rcases hblk q hq with h9 | h9
      · exact .inl (.inr h9)
      · right; have := hg1.size; omega
  obtain ⟨ao, n', cap, rfl⟩ : ∃ ao n' cap, v' = .slice ao n' cap := by
    rcases hown'.2 with ⟨hv, _⟩ | ⟨g, cap, cur, hv, _⟩
    · exact ⟨_, _, _, hv⟩
    · exact ⟨_, _, _, hv⟩
  go_wp2
  go_ret2
  exact ⟨rfl, _, hfin, hon, hsub⟩
end Go.Proofs.Ytddkhkpdbjjboaa

/- The reference's SegEncode: its contract. -/
namespace Go.Proofs.Ytddkhkpdbjjboaa
open Go.RowKit
set_option linter.unusedVariables false
set_option linter.unusedSimpArgs false
set_option maxRecDepth 100000

theorem wpList_store_newN {P : Program} {ops : Array Oper} {rest : List Oper} {o : Oper} {a : Act} {Q : Exit → Act → World → Prop} (w0 : World) (n : Nat) (hn : w0.heap.size = n) (hgd : o.guard = none) (t : TypeId) (x y : Operand) (ho : o.op = .store t x y) (c : Array Value) (c' : List Value)
    (hx : a.eval x = .pointer (some ⟨n, 0, none⟩)) (hy : a.eval y = .agg c'.toArray) (hi : (P.info? t).map (·.size) = some c'.length) (hsz : c.size = c'.length) (h1 : ∀ u ∈ c', u.oneCell' = true)
    (h : wpList P ops Q rest (a.put o.dst undef) (w0.alloc (.cells c'.toArray t))) : wpList P ops Q (o :: rest) a (w0.alloc (.cells c t)) := by
  subst hn
  exact wpList_store_new w0 hgd t x y ho c c' hx hy hi hsz h1 h
theorem toksB_more {L : List (List Int)} {x : Bool × Int × Int × Int} (k : Nat) (h : x ∈ toksB 0 (L.take k)) : ∀ d, x ∈ toksB 0 (L.take (k + d))
  | 0 => h
  | d + 1 => by
    have ih := toksB_more k h d
    cases hq : L[k + d]? with
    | none =>
      have h2 := List.getElem?_eq_none_iff.1 hq
      rw [List.take_of_length_le h2] at ih
      rw [List.take_of_length_le (by omega)]; exact ih
    | some r =>
      have h3 := toksB_next hq
      rw [show k + (d + 1) = k + d + 1 from rfl, h3]
      exact List.mem_append.2 (.inl ih)
theorem toksB_all {L : List (List Int)} {x : Bool × Int × Int × Int} {k : Nat} (h : x ∈ toksB 0 (L.take k)) : x ∈ toksB 0 L := by
  have := toksB_more k h L.length
  rw [List.take_of_length_le (by omega)] at this; exact this
set_option maxRecDepth 100000 in
set_option maxHeartbeats 8000000 in
theorem refSegEncode_any (cs syms : List Int) (A : Option Addr) (c : Nat) (cs2 syms2 : List Int) (A2 : Option Addr) (c2 G : Nat) (L : List (List Int)) (A3 : Option Addr) (c3 : Nat) (w : World)
    (hcs : cs.length = 16) (hn : syms.length ≤ maxLen) (hcap : syms.length ≤ c) (hb : ∀ x ∈ cs, -9223372036854775808 ≤ x ∧ x ≤ 9223372036854775807) (hs : Seen w G A (ints .i64 syms))
    (hcs2 : cs2.length = 16) (hn2 : syms2.length ≤ maxLen) (hcap2 : syms2.length ≤ c2) (hb2 : ∀ x ∈ cs2, -9223372036854775808 ≤ x ∧ x ≤ 9223372036854775807) (hs2 : Seen w G A2 (ints .i64 syms2))
    (hl : ∀ r ∈ L, r.length = 64) (hm : L.length ≤ maxLen) (hs3 : Seen w G A3 (rowsC L)) (hG : G ≤ w.heap.size) :
    Calls Try.prog 26 #[tabsV cs A syms.length c cs2 A2 syms2.length c2, .slice A3 L.length c3] w fun e w' => ∃ v out, e = .returned (.tuple #[v, .int .i64 (eEnc cs syms cs2 syms2 L)]) ∧ Owns w.heap.size [byteRow v out] w' ∧ SegOut cs syms cs2 syms2 L out ∧ Below w.heap.size w w' := by
  have h17 : (tabCells cs A syms.length c).length = 17 := tabCells_length hcs
  have h17b : (tabCells cs2 A2 syms2.length c2).length = 17 := tabCells_length hcs2
  have h34 : (tabsCells cs A syms.length c cs2 A2 syms2.length c2).length = 34 := by unfold tabsCells; rw [List.length_append, h17, h17b]
  have HCk := veil (fun W h1 h2 hG => tablesCheck_any cs syms A c cs2 syms2 A2 c2 G W hcs hn hcap hb h1 hcs2 hn2 hcap2 hb2 h2 hG)
  have HBk := veil (fun W h hG => blocksCheck_any L A3 c3 G W hl hm h hG)
  have HTo := veil (fun b cs W h => refTokens_any b cs W h)
  have HWo := veil (fun (l : List (Nat × Nat)) (hf : Fine cs syms l) x W h hG => wordOf_any cs syms l A c G x W hcs hf h hG)
  have HWo2 := veil (fun (l : List (Nat × Nat)) (hf : Fine cs2 syms2 l) x W h hG => wordOf_any cs2 syms2 l A2 c2 G x W hcs2 hf h hG)
  unfold blkV at HTo
  have hb0 := below1 w (.cells (tabsCells cs A syms.length c cs2 A2 syms2.length c2).toArray 27)
  have hz0 : (w.alloc (.cells (tabsCells cs A syms.length c cs2 A2 syms2.length c2).toArray 27)).heap.size = w.heap.size + 1 := by simp
  have hr := range_new w (tabsCells cs A syms.length c cs2 A2 syms2.length c2) 27
  have hr1 := range_left hr
  have hr2 := range_right hr
  rw [h17] at hr2
  have Hcs := veil hcs
  have Hcs2 := veil hcs2
  obtain ⟨E, hE⟩ : ∃ E, E = eEnc cs syms cs2 syms2 L := ⟨_, rfl⟩
  rw [← hE]
  have HSo : Hid (E ≠ 0 → SegOut cs syms cs2 syms2 L []) := fun h => ⟨fun _ => rfl, fun h2 => absurd h2 (by rw [← hE]; exact h)⟩
  have HE := veil hE
  have H17 := veil h17
  have H17b := veil h17b
  have H34 := veil h34
  have HxsO := veil (tabCells_one (cs := cs) (A := A) (n := syms.length) (c := c))
  have HysO := veil (tabCells_one (cs := cs2) (A := A2) (n := syms2.length) (c := c2))
  clear h17 h17b h34 hcs hcs2 hb hb2 hE
  unfold tabsV at HCk ⊢
  unfold tabV at HWo HWo2
  generalize tabsCells cs A syms.length c cs2 A2 syms2.length c2 = zs at *
  generalize tabCells cs A syms.length c = xs at *
  generalize tabCells cs2 A2 syms2.length c2 = ys at *
  go_enter Try.func26, Try.ntmps26
  go_wp2_with (first
    | (refine wpList_load_mid rfl 27 (.tmp 2) rfl w.heap.size 0 rfl zs _ hr Try.underlying27 rfl (by rw [H34.out]; kernel_rfl) ?_)
    | fail)
  refine (HCk.out _ (hs.below hb0 hG) (hs2.below hb0 hG) (by rw [hz0]; omega)).mono ?_
  rintro e w1 ⟨rfl, hb1⟩
  have hr1a := range_below hr1 hb1 (by rw [hz0]; omega)
  have hr2a := range_below hr2 hb1 (by rw [hz0]; omega)
  have hbw := hb0.trans (hb1.mono (by rw [hz0]; omega))
  have hz1 := hb1.size
  rw [hz0] at hz1
  clear hr hr1 hr2 hb0 HCk hb1
  by_cases h0 : eTs cs syms cs2 syms2 = 0
  · rw [h0]
    have h0a : checkErr cs syms = 0 := by
      refine Classical.byContradiction fun h => ?_
      rw [eTs_one' h] at h0; exact h h0
    have h0b : checkErr cs2 syms2 = 0 := by rw [eTs_two' h0a] at h0; exact h0
    have H0 := veil h0a; have H0b := veil h0b
    clear h0 h0a h0b
    go_wp2_with fail
    refine (HBk.out _ (hs3.below hbw hG) (by omega)).mono ?_
    rintro e w2 ⟨rfl, hb2⟩
    have hr1b := range_below hr1a hb2 (by omega)
    have hr2b := range_below hr2a hb2 (by omega)
    have hbw2 := hbw.trans (hb2.mono hbw.size)
    have hz2 := hb2.size
    clear hr1a hr2a hbw hb2 HBk
    by_cases hL : eL L = 0
    · rw [hL]
      obtain ⟨hl400, hin⟩ := eL_zero hL
      obtain ⟨l1, hf1, how1, hll1⟩ := fine_of H0.out
      obtain ⟨l2, hf2, how2, hll2⟩ := fine_of H0b.out
      have hpf1 := hf1.pf Hcs.out
      have hpf2 := hf2.pf Hcs2.out
      have hW1 := HWo.out l1 hf1
      have hW2 := HWo2.out l2 hf2
      rw [← how1] at hW1 hpf1
      rw [← how2] at hW2 hpf2
      obtain ⟨fw, hfw⟩ : ∃ fw, fw = outWords cs syms := ⟨_, rfl⟩
      obtain ⟨rw_, hrw⟩ : ∃ rw_, rw_ = outWords cs2 syms2 := ⟨_, rfl⟩
      rw [← hfw] at hW1 hpf1
      rw [← hrw] at hW2 hpf2
      have HW1 := veil hW1; have HW2 := veil hW2; have Hpf1 := veil hpf1; have Hpf2 := veil hpf2
      have hEo : Hid (E = if AllW fw rw_ (toksB 0 L) then 0 else 5) := by show _ = _; have := HE.out.trans (eEnc_end H0.out H0b.out hL); rw [hfw, hrw]; exact this
      have hSo : Hid (∀ raw, E = 0 → Bytes raw → (∃ p, p < 8 ∧ unpack raw = segBits fw rw_ (toksB 0 L) ++ List.replicate p true) → SegOut cs syms cs2 syms2 L (stuffB raw)) := fun raw h0 h1 h2 => ⟨fun h => absurd (HE.out.symm.trans h0) h, fun _ => ⟨raw, rfl, h1, by rw [← hfw, ← hrw]; exact h2⟩⟩
      have hbb := bld_new w2
      have hb3 := below1 w2 (.cells #[.pointer none, .slice none 0 0] 88)
      have hr1c := range_below hr1b hb3 (by omega)
      have hr2c := range_below hr2b hb3 (by omega)
      have hbw3 := hbw2.trans (hb3.mono hbw2.size)
      have hz3 : (w2.alloc (.cells #[.pointer none, .slice none 0 0] 88)).heap.size = w2.heap.size + 1 := by simp
      have hs3a := hs3.below hbw3 hG
      have hsA := hs.below hbw3 hG
      have hsB := hs2.below hbw3 hG
      obtain ⟨w3, hw3⟩ : ∃ w3, w3 = w2.alloc (.cells #[.pointer none, .slice none 0 0] 88) := ⟨_, rfl⟩
      obtain ⟨bd, hbd⟩ : ∃ bd, bd = w2.heap.size := ⟨_, rfl⟩
      rw [← hw3] at hbb hr1c hr2c hbw3 hz3 hs3a hsA hsB
      rw [← hbd] at hbb hz3
      have Hbb := veil hbb; have Hr1 := veil hr1c; have Hr2 := veil hr2c; have Hbw3 := veil hbw3; have Hs3 := veil hs3a; have HsA := veil hsA; have HsB := veil hsB
      have hlo : w.heap.size < bd := by omega
      have Hw3 := veil hw3
      have Hbd := veil hbd
      clear hbb hr1c hr2c hbw3 hs3a hsA hsB hr1b hr2b hW1 hW2 hpf1 hpf2 hfw hrw how1 how2 hf1 hf2 hll1 hll2 HWo HWo2 hb3 hs hs2 hs3 hL hw3 hbd hbw2 hz1 hz2
      obtain ⟨v0, hx0⟩ := Hbb.out.x
      have HX0 := veil hx0
      have Hl400 := veil hl400
      have Hin := veil hin
      have Hl := veil hl
      clear hx0 Hbb
      have hBr0 : Below bd w3 w3 := Below.refl _ _
      have HBr0 := veil hBr0
      clear hBr0 hin hl400
      go_wp2_with fail
      rw [← Hw3.out, ← Hbd.out]
      go_loopg [31] L.length (fun gk iv wr => ∃ (k : Nat) (vb : Value), gk = L.length - k ∧ k ≤ L.length ∧ iv = .int .i64 (k : Int) ∧ Hid (AllW fw rw_ (toksB 0 (L.take k))) ∧ Hid (BldX bd bd vb (segBits fw rw_ (toksB 0 (L.take k))) wr) ∧ Hid (Below bd w3 wr))
      case atStart => exact ⟨0, v0, rfl, Nat.zero_le _, rfl, veil (by intro x hx; simp [toksB] at hx), HX0, HBr0⟩
      case round =>
        clear HX0 HBr0
        obtain ⟨k, vb, rfl, hk, rfl, HAl, HX, HBr⟩ := hrel
        obtain ⟨W1, hW1⟩ : ∃ W1, W1 = wr := ⟨_, rfl⟩
        subst hW1
        have hzr := (HX.out.lt (.inl rfl)).2
        by_cases hlt : k < L.length
        · have hltz : (k : Int) < (L.length : Int) := by omega
          have hL4 := Hl400.out
          have hsL := Hs3.out.below HBr.out (by omega)
          obtain ⟨g, o, r, rfl, hg, hr, hrl, hrange⟩ := hsL.row hl (by omega) hlt
          have hbin := ahead_in (k := k) hl (fun r hr => Hin.out r (List.mem_of_mem_take hr)) hk
          have Hl2 : Hid ((ints .i64 r).length = 64) := by show _ = _; rw [ints_length, hrl]
          have hone := ints_one (k := .i64) (l := r)
          have hr2 := range_new W1 (ints .i64 r) 42
          have hb2 := below1 W1 (.cells (ints .i64 r).toArray 42)
          have HT2 := veil (HTo.out (ahead L k) r (W1.alloc (.cells (ints .i64 r).toArray 42)) hrl)
          have hz2 : (W1.alloc (.cells (ints .i64 r).toArray 42)).heap.size = W1.heap.size + 1 := by simp
          have hS2 : Seen (W1.alloc (.cells (ints .i64 r).toArray 42)) G (some ⟨g, o, none⟩) (rowsC L) := hsL.below hb2 (by omega)
          have Hr := veil hr
          have Hbin := veil hbin
          have Hrl := veil hrl
          have hinr := Hin.out r (List.mem_of_getElem? hr)
          have Hinr := veil hinr
          obtain ⟨zs2, hys⟩ : ∃ ys, ys = ints .i64 r := ⟨_, rfl⟩
          rw [← hys] at hrange Hl2 hone hr2 hb2 HT2 hz2 hS2
          have HS2 := veil hS2
          have Hhb2 := veil hb2
          have Hsl := veil hsL
          clear hr hrl hbin hys hinr hS2 hb2 hsL Hsl
          go_upto_if 37 with (first
            | (refine wpList_load_mid rfl 42 (.tmp 34) rfl g (o + k * 64) rfl zs2 _ hrange Try.underlying42 rfl (info_blkn Hl2.out) ?_)
            | (refine wpList_store_new W1 rfl 42 (.tmp 10) (.tmp 35) rfl zeroB.toArray zs2 rfl rfl (info_blkn Hl2.out) (by rw [Hl2.out]; rfl) hone ?_)
            | fail)
          obtain ⟨W2, hW2⟩ : ∃ W2, W2 = W1.alloc (.cells zs2.toArray 42) := ⟨_, rfl⟩
          rw [← hW2] at hr2 hz2 HT2 HS2 Hhb2 ⊢
          clear hrange hW2
          go_cut [11] (fun v11 wx => v11 = .int .i64 (ahead L k) ∧ wx = W2)
          case first =>
            by_cases hk0 : k = 0
            · subst hk0
              go_wp2_with fail
              go_meet
              case rel => exact ⟨rfl, rfl⟩
            · obtain ⟨j, rfl⟩ : ∃ j, k = j + 1 := ⟨k - 1, by omega⟩
              obtain ⟨g9, o9, r9, hA9, hg9, hr9, hrl9, hrange9⟩ := HS2.out.row hl (by omega) (k := j) (by omega)
              simp only [Option.some.injEq, Addr.mk.injEq, and_true] at hA9
              obtain ⟨rfl, rfl⟩ := hA9
              have hc9 := hrange9 0 (.int .i64 (ahead L (j + 1))) (by
                rw [ahead_next hr9]
                match r9, hrl9 with
                | z :: r9, _ => rfl)
              rw [Nat.add_zero] at hc9
              have hw9 : IntKind.i64.wrap (((j + 1 : Nat) : Int) - 1) = (j : Int) := by rw [IntKind.wrap_i64]; omega
              have hp9 : (0 : Int) < ((j + 1 : Nat) : Int) := by omega
              obtain ⟨AH, hAH⟩ : ∃ AH, AH = ahead L (j + 1) := ⟨_, rfl⟩
              rw [← hAH] at hc9
              have HAH := veil hAH
              clear hrange9 hr9 hAH
              go_wp2_with fail
              go_meet
              case rel => exact ⟨by rw [HAH.out], rfl⟩
          case rest =>
            obtain ⟨rfl, hwc⟩ := hcut
            have hwc' : wc = W2 := hwc
            subst wc
            go_wp2_with (first
              | (refine wpList_load_mid rfl 42 (.tmp 10) rfl W1.heap.size 0 rfl zs2 _ hr2 Try.underlying42 rfl (info_blkn Hl2.out) ?_)
              | fail)
            refine HT2.out.mono ?_
            rintro e w3' ⟨v, rfl, HO3, hb3⟩
            have hz3' := hb3.size
            rw [hz2] at hz3' HO3
            have hT0 := eT_ok Hbin.out.1 Hbin.out.2 Hinr.out
            rw [oT_ok hT0] at HO3
            rw [hT0]
            obtain ⟨T, hT⟩ : ∃ T, T = toksZ (ahead L k) (toL r) := ⟨_, rfl⟩
            have hgood : ∀ t ∈ T, goodT t := by rw [hT]; exact toks_good Hbin.out (toL_in Hrl.out Hinr.out)
            have hTl : T.length ≤ 64 := by rw [hT]; exact toks_len _ (toL_length _)
            have hacc : toksB 0 (L.take (k + 1)) = toksB 0 (L.take k) ++ flagT T := by rw [toksB_next Hr.out, hT]
            have hlen0 : (toksB 0 (L.take k)).length ≤ 64 * k := by have := toksB_len (L.take k) 0; rw [List.length_take, Nat.min_eq_left hk] at this; exact this
            have hgd0 : ∀ x ∈ toksB 0 (L.take k), goodT x.2 := toksB_good (L.take k) 0 (fun y hy => hl y (List.mem_of_mem_take hy)) (fun y hy => Hin.out y (List.mem_of_mem_take hy)) (by omega)
            rw [← hT] at HO3
            obtain ⟨A5, c5, hv5, _, _, _⟩ := tok_form HO3
            subst v
            have hbW : Below W1.heap.size W1 w3' := Hhb2.out.trans (hb3.mono (by rw [hz2]; omega))
            have hX3 := HX.out.below hbW
            have hBr3 : Below bd w3 w3' := HBr.out.trans (hbW.mono (by omega))
            have hap3 : ∀ q, (Value.slice A5 T.length c5).ownBlock = some q → ¬ bldF bd vb q := fun q hq hf => by
              have h1 := (HO3.head.lt q hq).1
              have h2 := (HX.out.lt hf).2
              omega
            have Hgood := veil hgood; have Hacc := veil hacc; have HO3 := veil HO3; have HX3 := veil hX3; have HBr3 := veil hBr3; have Hlen0 := veil hlen0; have Hap3 := veil hap3; have Hgd0 := veil hgd0
            have HAl3 : Hid (AllW fw rw_ (toksB 0 (L.take k) ++ flagT (T.take 0))) := by show AllW fw rw_ _; rw [List.take_zero]; simpa [flagT] using HAl.out
            have HX30 : Hid (BldX bd bd vb (segBits fw rw_ (toksB 0 (L.take k) ++ flagT (T.take 0))) w3') := by show BldX _ _ _ _ _; rw [List.take_zero]; simpa [flagT] using HX3.out
            obtain ⟨base, hbase⟩ : ∃ base, base = W1.heap.size + 1 := ⟨_, rfl⟩
            rw [← hbase] at HO3
            have Hbase := veil hbase
            clear hT0 hT hgood hacc hlen0 hX3 hBr3 hb3 hr2 HT2 HS2 Hhb2 hap3 hgd0 HX HBr HAl hbW HX3 hbase
            go_wp2_with fail
            go_loopg [52] T.length (fun gk iv wi => ∃ (j : Nat) (vb : Value), gk = T.length - j ∧ j ≤ T.length ∧ iv = .int .i64 (j : Int) ∧ Hid (AllW fw rw_ (toksB 0 (L.take k) ++ flagT (T.take j))) ∧ Hid (BldX bd bd vb (segBits fw rw_ (toksB 0 (L.take k) ++ flagT (T.take j))) wi) ∧ Hid (Owns base [tokRow (.slice A5 T.length c5) T] wi) ∧ Hid (Below bd w3 wi) ∧ Hid (∀ q, (Value.slice A5 T.length c5).ownBlock = some q → ¬ bldF bd vb q))
            case atStart => exact ⟨0, vb, rfl, Nat.zero_le _, rfl, HAl3, HX30, HO3, HBr3, Hap3⟩
            case round =>
              clear HAl3 HX30 HO3 HBr3 Hap3
              obtain ⟨j, vb, rfl, hj, rfl, HAl, HX, HO, HBr, Hap⟩ := hrel
              by_cases hltj : j < T.length
              · have hltjz : (j : Int) < (T.length : Int) := by omega
                obtain ⟨A6, c6, hv6, hs6, hc6, hm6⟩ := tok_form HO.out
                obtain ⟨rfl, rfl⟩ : A5 = A6 ∧ c5 = c6 := by simpa using hv6
                obtain ⟨g6, o6, t0, t1, t2, rfl, hg6, htj, d0, d1, d2⟩ := hs6.tok hltj
                have hgt := Hgood.out _ (List.mem_of_getElem? htj)
                have hgf := goodT_fit hgt
                simp only at hgf
                obtain ⟨X, rfl⟩ : ∃ X : Nat, t1 = (X : Int) := ⟨t1.toNat, by omega⟩
                obtain ⟨Y, rfl⟩ : ∃ Y : Nat, t2 = (Y : Int) := ⟨t2.toNat, by omega⟩
                have hX12 : X ≤ 12 := by omega
                have hYb : Y < 9223372036854775808 := by
                  have h1 := hgf.2.2
                  rw [Int.toNat_natCast] at h1
                  have h2 : pw X ≤ pw 12 := by unfold pw; exact_mod_cast Nat.pow_le_pow_right (by decide) hX12
                  have h3 : pw 12 = 4096 := by decide
                  omega
                have hlenk := Hlen0.out
                have hfl : (toksB 0 (L.take k) ++ flagT (T.take j)).length < 25600 := by
                  rw [List.length_append, flagT_length, List.length_take]; omega
                have hgda : ∀ x ∈ toksB 0 (L.take k) ++ flagT (T.take j), goodT x.2 := fun x hx => by
                  rcases List.mem_append.1 hx with hx | hx
                  · exact Hgd0.out x hx
                  · exact flag_good (fun t ht => Hgood.out t (List.mem_of_mem_take ht)) x hx
                have hbl := segBits_len Hpf1.out Hpf2.out _ hgda
                have hsn : (toksB 0 (L.take k) ++ flagT (T.take j)) ++ [(decide (j = 0), t0, (X : Int), (Y : Int))] = toksB 0 (L.take k) ++ flagT (T.take (j + 1)) := by
                  rw [List.append_assoc]
                  congr 1
                  have h9 := flagT_at htj
                  rw [← flagT_take, ← flagT_take, take_snoc h9]
                have hin9 : (decide (j = 0), t0, (X : Int), (Y : Int)) ∈ toksB 0 L := by
                  refine toksB_all (k := k + 1) ?_
                  rw [Hacc.out]
                  exact List.mem_append.2 (.inr (List.mem_of_getElem? (flagT_at htj)))
                have hb7 := below1 wr (.cells #[.int .i64 t0, .int .i64 (X : Int), .int .i64 (Y : Int)] 76)
                have hb8 := below1 (wr.alloc (.cells #[.int .i64 t0, .int .i64 (X : Int), .int .i64 (Y : Int)] 76)) (.cells ys.toArray 25)
                have hzA : (wr.alloc (.cells #[.int .i64 t0, .int .i64 (X : Int), .int .i64 (Y : Int)] 76)).heap.size = wr.heap.size + 1 := by simp
                have hzi := (HX.out.lt (.inl rfl)).2
                have hrA := range_below Hr2.out (HBr.out.trans (hb7.mono (by omega))) (by omega)
                have hrB := range_below Hr1.out ((HBr.out.trans (hb7.mono (by omega))).trans (hb8.mono (by omega))) (by omega)
                rw [Nat.zero_add] at hrA
                have hTB := (Blk.new wr [.int .i64 t0, .int .i64 (X : Int), .int .i64 (Y : Int)] 76).below hb8 (by omega)
                have hNB := Blk.new (wr.alloc (.cells #[.int .i64 t0, .int .i64 (X : Int), .int .i64 (Y : Int)] 76)) ys 25
                rw [hzA] at hNB
                obtain ⟨wA, hwA⟩ : ∃ wA, wA = wr.alloc (.cells #[.int .i64 t0, .int .i64 (X : Int), .int .i64 (Y : Int)] 76) := ⟨_, rfl⟩
                have hb78 : Below wr.heap.size wr (wA.alloc (.cells ys.toArray 25)) := by rw [hwA]; exact hb7.trans (hb8.mono (by omega))
                have HTB := veil hTB; have HNB := veil hNB; have Hb78 := veil hb78; have HrA := veil hrA; have HrB := veil hrB
                have Hhwa := veil hwA
                have Hsn := veil hsn; have Hin9 := veil hin9; have Hbl := veil hbl; have Hgt := veil hgt
                clear hTB hNB hb78 hrA hrB hb7 hb8 hwA hs6 hv6 htj hgf hsn hin9 hbl hgda hgt
                have hxs1 : ∀ u ∈ xs, u.oneCell' = true := HxsO.out
                have hys1 : ∀ u ∈ ys, u.oneCell' = true := HysO.out
                go_upto_if 60 with (first
                  | (refine wpList_load_mid rfl 25 (.tmp 57) rfl w.heap.size 17 rfl ys _ HrA.out Try.underlying25 rfl (by rw [H17b.out]; exact info_tab) ?_)
                  | (refine wpList_store_newN (wr.alloc (.cells #[.int .i64 t0, .int .i64 (X : Int), .int .i64 (Y : Int)] 76)) (wr.heap.size + 1) hzA rfl 25 (.tmp 16) (.tmp 58) rfl _ ys rfl rfl (by rw [H17b.out]; exact info_tab) (by rw [H17b.out]; rfl) hys1 ?_)
                  | fail)
                rw [← Hhwa.out]
                have hz9 : (wA.alloc (.cells ys.toArray 25)).heap.size = wr.heap.size + 2 := by rw [Hhwa.out]; simp
                obtain ⟨wB, hwB⟩ : ∃ wB, wB = wA.alloc (.cells ys.toArray 25) := ⟨_, rfl⟩
                rw [← Hhwa.out] at HTB HNB HrB
                rw [← hwB] at hz9 HTB HNB HrB Hb78 ⊢
                clear hwB
                have hSA := fun (W : World) (hW : Below wr.heap.size wr W) => HsA.out.below (HBr.out.trans (hW.mono (by omega))) (by omega)
                have hSB := fun (W : World) (hW : Below wr.heap.size wr W) => HsB.out.below (HBr.out.trans (hW.mono (by omega))) (by omega)
                obtain ⟨sel, hs1, hs0, hs17, hsW⟩ : ∃ sel : List Value, (j = 0 → sel = xs) ∧ (j ≠ 0 → sel = ys) ∧ sel.length = 17 ∧ ∀ W, Below wr.heap.size wr W → Calls Try.prog 43 #[.agg sel.toArray, .int .i64 t0] W fun e w' =>
                    e = .returned (.tuple #[.string (txt (symBits (wsOf fw rw_ (decide (j = 0))) t0)), .bool (symF (wsOf fw rw_ (decide (j = 0))) t0).isSome]) ∧ Below W.heap.size W w' := by
                  by_cases h0 : j = 0
                  · refine ⟨xs, fun _ => rfl, fun h => absurd h0 h, H17.out, fun W hW => ?_⟩
                    have h2 := HW1.out t0 W (hSA W hW) (by have := hW.size; omega)
                    rw [decide_eq_true h0]; exact h2
                  · refine ⟨ys, fun h => absurd h h0, fun _ => rfl, H17b.out, fun W hW => ?_⟩
                    have h2 := HW2.out t0 W (hSB W hW) (by have := hW.size; omega)
                    rw [decide_eq_false h0]; exact h2
                have Hs1 := veil hs1; have Hs0 := veil hs0; have Hs17 := veil hs17; have HsW := veil hsW
                clear hs1 hs0 hs17 hsW hSA hSB
                go_cut [16] (fun v16 wx => v16 = .pointer (some ⟨wr.heap.size + 1, 0, none⟩) ∧ Hid (Blk wx (wr.heap.size + 1) sel 25) ∧ Hid (wB.grownBy wx (some (wr.heap.size + 1))))
                case first =>
                  by_cases hj0 : j = 0
                  · have hjb : ((j : Int) == 0) = true := by simp [hj0]
                    have hsx := Hs1.out hj0
                    have Hsx := veil hsx
                    clear hj0 hsx
                    go_wp2_with (first
                      | (refine wpList_load_mid rfl 25 (.tmp 61) rfl w.heap.size 0 rfl xs _ HrB.out Try.underlying25 rfl (by rw [H17.out]; exact info_tab) ?_)
                      | (refine wpList_store_blk _ rfl 25 (.tmp 16) (.tmp 62) rfl (wr.heap.size + 1) ys xs 25 HNB.out rfl rfl (by rw [H17.out]; exact info_tab) (by rw [H17.out, H17b.out]) hxs1 ?_; intro w5 hB5 hg5)
                      | fail)
                    go_meet
                    case rel => exact ⟨rfl, veil (by rw [Hsx.out]; exact hB5), veil hg5⟩
                  · have hjb : ((j : Int) == 0) = false := by simp [hj0]
                    have hsx := Hs0.out hj0
                    have Hsx := veil hsx
                    clear hj0 hsx
                    go_wp2_with fail
                    go_meet
                    case rel => exact ⟨rfl, veil (by rw [Hsx.out]; exact HNB.out), veil (World.grownBy.refl _ _)⟩
                case rest =>
                  obtain ⟨rfl, HBc, Hgc⟩ := hcut
                  have hBc := HBc.out
                  have hgc := Hgc.out
                  have hbc : Below wr.heap.size wr wc := Hb78.out.grown hgc (by have := Hb78.out.size; omega) (fun q hq => by injection hq with hq; omega)
                  have hzc : wr.heap.size + 2 ≤ wc.heap.size := by have := hgc.size; omega
                  have hTc := HTB.out.kept hgc (by intro h; injection h with h; omega)
                  have q0 := hTc.cell (i := 0) (v := .int .i64 t0) rfl
                  have q1 := hTc.cell (i := 1) (v := .int .i64 (X : Int)) rfl
                  have q2 := hTc.cell (i := 2) (v := .int .i64 (Y : Int)) rfl
                  have hXc := HX.out.below hbc
                  have hOc := HO.out.below hbc
                  have hBrc : Below bd w3 wc := HBr.out.trans (hbc.mono (by omega))
                  have hWc := HsW.out wc hbc
                  have HWc := veil hWc; have HXc := veil hXc; have HOc := veil hOc; have HBrc := veil hBrc; have HTc := veil hTc
                  have hlt5 : ∀ q, (Value.slice (some ⟨g6, o6, none⟩) T.length c5).ownBlock = some q → q < wc.heap.size := fun q hq => (hOc.head.lt q hq).2
                  have Hlt5 := veil hlt5
                  have hrc := hBc.range
                  obtain ⟨ws, hws⟩ : ∃ ws, ws = wsOf fw rw_ (decide (j = 0)) := ⟨_, rfl⟩
                  rw [← hws] at HWc
                  have hpf : PF ws := by rw [hws]; unfold wsOf; split; exact Hpf1.out; exact Hpf2.out
                  have hsb16 : (symBits ws t0).length ≤ 28 := by
                    have h9 := tokBits_len hpf Hgt.out
                    unfold tokBits at h9
                    rw [List.length_append] at h9; simp only at h9; omega
                  have Hws := veil hws
                  clear hTc hXc hOc hBrc hWc hbc hgc hws hpf hlt5 HBc Hgc HX HO HTB HNB HrB HrA Hs1 Hs0
                  cases hq : symF ws t0 with
                  | none =>
                    have hE5 : E = 5 := by
                      rw [hEo.out, if_neg]
                      intro h
                      have h2 := h _ Hin9.out
                      simp only at h2
                      rw [← Hws.out, hq] at h2; cases h2
                    have hS := HSo.out (by rw [hE5]; decide)
                    have HS := veil hS
                    have HE5 := veil hE5
                    rw [hq] at HWc
                    clear hE5 hS hq
                    go_wp2_with (first
                      | (refine wpList_load_mid rfl 25 (.tmp 16) rfl (wr.heap.size + 1) 0 rfl sel _ hrc Try.underlying25 rfl (by rw [Hs17.out]; exact info_tab) ?_)
                      | fail)
                    refine HWc.out.mono ?_
                    rintro e w6 ⟨rfl, hb6⟩
                    simp only [Option.isSome_none]
                    have hfin : Below w.heap.size w w6 := (Hbw3.out.trans (HBrc.out.mono (by omega))).trans (hb6.mono (by omega))
                    have Hfin := veil hfin
                    clear hfin hb6 q0 q1 q2 hrc hBc
                    go_wp2_with fail
                    go_ret2
                    exact ⟨_, [], ret_two rfl (by rw [HE5.out]; rfl), (Owns.nil Hfin.out.size).fresh _ _, HS.out, Hfin.out⟩
                  | some p =>
                    rw [hq] at HWc
                    have Hq := veil hq
                    clear hq
                    obtain ⟨sb, hsb⟩ : ∃ sb, sb = symBits ws t0 := ⟨_, rfl⟩
                    rw [← hsb] at HWc hsb16
                    have Hsb := veil hsb
                    clear hsb
                    have hadd := txt_append sb (bitsN X Y)
                    have hsz1 : (txt sb).size = sb.length := txt_size sb
                    have hsz2 : (txt (bitsN X Y)).size = X := by rw [txt_size, bitsN_length]
                    go_wp2_with (first
                      | (refine wpList_load_mid rfl 25 (.tmp 16) rfl (wr.heap.size + 1) 0 rfl sel _ hrc Try.underlying25 rfl (by rw [Hs17.out]; exact info_tab) ?_)
                      | fail)
                    refine HWc.out.mono ?_
                    rintro e w6 ⟨rfl, hb6⟩
                    simp only [Option.isSome_some]
                    have hT6 := HTc.out.below hb6 (by omega)
                    have r0 := hT6.cell (i := 0) (v := .int .i64 t0) rfl
                    have r1 := hT6.cell (i := 1) (v := .int .i64 (X : Int)) rfl
                    have r2 := hT6.cell (i := 2) (v := .int .i64 (Y : Int)) rfl
                    have hX6 := HXc.out.below hb6
                    have hO6 := HOc.out.below hb6
                    have hz6 := hb6.size
                    have hBr6 : Below bd w3 w6 := HBrc.out.trans (hb6.mono (by omega))
                    have HX6 := veil hX6; have HO6 := veil hO6; have HBr6 := veil hBr6
                    clear hX6 hO6 hBr6 hb6 hT6 q0 q1 q2 hrc hBc
                    go_wp2_with (first
                      | (go_at_call 45; refine (binary_any X Y _ (by omega) hYb).mono ?_; rintro e w7 ⟨rfl, rfl⟩)
                      | fail)
                    refine (writeString_x bd bd vb _ (sb ++ bitsN X Y) w6 HX6.out (by rw [List.length_append, bitsN_length]; have := Hbl.out; omega) (by omega)).mono ?_
                    rintro e w8 ⟨rfl, vb8, hX8, hon8, hsub8⟩
                    have hz8 := hon8.size
                    have hO8 : Owns base [tokRow (.slice (some ⟨g6, o6, none⟩) T.length c5) T] w8 := HO6.out.only hon8 (fun r hr q hq => by
                      rw [List.mem_singleton.1 hr] at hq
                      exact Hap.out q hq)
                    have hap8 : ∀ q, (Value.slice (some ⟨g6, o6, none⟩) T.length c5).ownBlock = some q → ¬ bldF bd vb8 q := fun q hq hf => by
                      rcases hsub8 q hf with h | h
                      · exact Hap.out q hq h
                      · have := Hlt5.out q hq; omega
                    have hBr8 : Below bd w3 w8 := HBr6.out.trans ((hon8.below (B := bd) (by omega) (fun q hq => (HX6.out.lt hq).1)).mono (by omega))
                    have hbits : segBits fw rw_ (toksB 0 (L.take k) ++ flagT (T.take j)) ++ (sb ++ bitsN X Y) = segBits fw rw_ (toksB 0 (L.take k) ++ flagT (T.take (j + 1))) := by
                      rw [← Hsn.out, segBits_append fw rw_ (toksB 0 (L.take k) ++ flagT (T.take j)), segBits_one]
                      unfold tokBits
                      simp only
                      rw [← Hws.out, Hsb.out, Int.toNat_natCast, Int.toNat_natCast]
                    rw [hbits] at hX8
                    have hal8 : AllW fw rw_ (toksB 0 (L.take k) ++ flagT (T.take (j + 1))) := by
                      rw [← Hsn.out]
                      exact allW_snoc.2 ⟨HAl.out, by simp only; rw [← Hws.out, Hq.out]; rfl⟩
                    have HX8 := veil hX8; have HO8 := veil hO8; have Hap8 := veil hap8; have HBr8 := veil hBr8; have Hal8 := veil hal8
                    clear hX8 hO8 hap8 hBr8 hal8 hbits hon8 hsub8 hadd hsz1 hsz2 HX6 HO6 HBr6
                    go_wp2_with fail
                    go_roundg (T.length - (j + 1))
                    case rel => exact ⟨j + 1, vb8, rfl, by omega, by go_num, Hal8, HX8, HO8, HBr8, Hap8⟩
                    case measure => omega
              · obtain rfl : j = T.length := by omega
                have h1 := HAl.out
                have h2 := HX.out
                rw [List.take_length, ← Hacc.out] at h1 h2
                have H1 := veil h1; have H2 := veil h2
                clear h1 h2
                go_wp2_with fail
                go_roundg (L.length - (k + 1))
                case rel => exact ⟨k + 1, _, rfl, by omega, by go_num, H1, H2, HBr⟩
                case measure => omega
        · obtain rfl : k = L.length := by omega
          have h1 := HAl.out
          have h2 := HX.out
          rw [List.take_length] at h1 h2
          have hE0 : E = 0 := by rw [hEo.out, if_pos h1]
          have hbl : (segBits fw rw_ (toksB 0 L)).length ≤ 1000000 := by
            have h3 := segBits_len Hpf1.out Hpf2.out (toksB 0 L) (toksB_good L 0 hl Hin.out (by omega))
            have h4 := toksB_len L 0
            have h5 := Hl400.out
            omega
          obtain ⟨bits, hbits⟩ : ∃ bits, bits = segBits fw rw_ (toksB 0 L) := ⟨_, rfl⟩
          rw [← hbits] at h2 hbl
          have hSo2 := fun raw => hSo.out raw hE0
          rw [← hbits] at hSo2
          have HSo2 := veil hSo2
          have HE0 := veil hE0
          have H2 := veil h2
          have hbw1 : Below w.heap.size w W1 := Hbw3.out.trans (HBr.out.mono (by omega))
          have Hbw1 := veil hbw1
          clear h1 h2 hE0 hSo2 hbits hbw1 HAl HX HBr
          go_wp2_with fail
          refine (string_any bd bd _ _ H2.out.bld).mono ?_
          rintro e w5 ⟨rfl, hb5⟩
          have hz5 := hb5.size
          go_wp2_with fail
          refine (bytesOf_any bits _ (by omega)).mono ?_
          rintro e w6 ⟨v6, raw, rfl, hown6, ⟨hby, hun⟩, hb6⟩
          obtain ⟨A6, c6, rfl, hs6, _, _⟩ := own_form' hown6
          have hrl6 : raw.length ≤ 125001 := by
            obtain ⟨p, hp, h9⟩ := hun
            have h8 := congrArg List.length h9
            rw [unpack_length, List.length_append, List.length_replicate] at h8
            omega
          have hst := stuffB_length_le raw
          have hz6 := hb6.size
          have hfin := HSo2.out raw hby hun
          have Hfin := veil hfin
          have hbw6 : Below w.heap.size w w6 := (Hbw1.out.trans (hb5.mono (by omega))).trans (hb6.mono (by omega))
          have Hbw6 := veil hbw6
          clear hown6 hby hun hb6 hb5 hfin hbw6
          go_wp2_with fail
          refine (refStuff_any A6 c6 w6.heap.size raw w6 hs6 (Nat.le_refl _) (by omega)).mono ?_
          rintro e w7 ⟨v7, rfl, HO7, hb7⟩
          go_wp2_with fail
          go_ret2
          exact ⟨_, stuffB raw, ret_two rfl (by rw [HE0.out]; rfl), ⟨by have := hb7.size; omega, fun r hr => own_base (HO7.each r hr) (by omega), HO7.apart⟩, Hfin.out, Hbw6.out.trans (hb7.mono (by omega))⟩
    · have hE5 := HE.out.trans (eEnc_blk H0.out H0b.out hL)
      have hS := HSo.out (by rw [hE5]; exact hL)
      have hne : (eL L != 0) = true := by simpa using hL
      have HS := veil hS
      have HE5 := veil hE5
      obtain ⟨er, her⟩ : ∃ er, er = eL L := ⟨_, rfl⟩
      rw [← her] at hne HE5 ⊢
      clear hL hE5 hS her
      go_wp2_with fail
      go_ret2
      exact ⟨_, [], ret_two rfl (by rw [HE5.out]; rfl), (Owns.nil hbw2.size).fresh _ _, HS.out, hbw2⟩
  · have hE1 : E = eTs cs syms cs2 syms2 := by
      rw [HE.out]
      by_cases h1 : checkErr cs syms = 0
      · rw [eTs_two' h1] at h0 ⊢; exact eEnc_two h1 h0
      · rw [eTs_one' h1]; exact eEnc_one h1
    have hS := HSo.out (by rw [hE1]; exact h0)
    have HS := veil hS
    have HE1 := veil hE1
    have hne : (eTs cs syms cs2 syms2 != 0) = true := by simpa using h0
    obtain ⟨er, her⟩ : ∃ er, er = eTs cs syms cs2 syms2 := ⟨_, rfl⟩
    rw [← her] at hne HE1 ⊢
    clear hE1 hS h0 her
    go_wp2_with fail
    go_ret2
    exact ⟨_, [], ret_two rfl (by rw [HE1.out]; rfl), (Owns.nil hbw.size).fresh _ _, HS.out, hbw⟩
end Go.Proofs.Ytddkhkpdbjjboaa

/- Parts of a slice of blocks. -/
namespace Go.Proofs.Ytddkhkpdbjjboaa
open Go.RowKit
set_option linter.unusedVariables false
set_option linter.unusedSimpArgs false
set_option maxRecDepth 100000

def cutR (A : Option Addr) (f h c : Nat) : Value := .slice (if c = f then A else A.map (·.add (f * 64))) (h - f) (c - f)
theorem run_cutR_to (A : Option Addr) (n c h : Nat) (h2 : h ≤ c) (u : World) : (Instr.sliceAt 28 (.slice A n c) none (some (.int .i64 (h : Int))) none).run Try.prog u = .ok (.slice A h c) u := by
  have he : Try.prog.underlying 28 = some (.slice (Try.prog.elem 28)) := by kernel_rfl
  have hz : (sizeOf (Try.prog.elem 28)).run Try.prog u = .ok 64 u := by kernel_rfl
  rw [run_sliceAt_slice _ _ _ _ _ _ he, run_slice_h _ _ _ _ _ he _ _ (by omega) (by omega), hz]
  simp [Result.andThen, sliced]
  intro _
  cases A with
  | none => rfl
  | some a => simp [Addr.add]
theorem run_cutR_end (A : Option Addr) (n c f : Nat) (h1 : f ≤ n) (u : World) : (Instr.sliceAt 28 (.slice A n c) (some (.int .i64 (f : Int))) none none).run Try.prog u = .ok (cutR A f n c) u := by
  have he : Try.prog.underlying 28 = some (.slice (Try.prog.elem 28)) := by kernel_rfl
  have hz : (sizeOf (Try.prog.elem 28)).run Try.prog u = .ok 64 u := by kernel_rfl
  rw [run_sliceAt_slice _ _ _ _ _ _ he, run_slice_l _ _ _ _ _ he _ _ (by omega) (by omega), hz]
  simp [Result.andThen, sliced, cutR]
theorem cutR_drop {w : World} {G c f : Nat} {A : Option Addr} {L : List (List Int)} (hl : ∀ r ∈ L, r.length = 64) (hs : Seen w G A (rowsC L)) (hf : f ≤ L.length) (hc : L.length ≤ c) :
    ∃ A', cutR A f L.length c = .slice A' (L.drop f).length (c - f) ∧ Seen w G A' (rowsC (L.drop f)) := by
  refine ⟨_, by rw [cutR, List.length_drop], ?_⟩
  by_cases hcf : c = f
  · have : L.drop f = [] := List.drop_of_length_le (by omega)
    rw [this]; exact .inl rfl
  · rw [if_neg hcf]
    have h9 := rowsC_take L f
    have h8 : (rowsC (L.take f)).length = f * 64 := by
      rw [rowsC_length (n := 64) (fun r hr => hl r (List.mem_of_mem_take hr)), List.length_take, Nat.min_eq_left hf]
    rcases hs with hs | ⟨g, o, rfl, hg, hcell⟩
    · rw [hs] at h9
      exact .inl (List.append_eq_nil_iff.1 h9.symm).2
    · refine .inr ⟨g, o + f * 64, by simp [addr_add], hg, fun j u hu => ?_⟩
      have h7 : (rowsC L)[f * 64 + j]? = some u := by
        rw [h9, List.getElem?_append_right (by omega), h8, Nat.add_sub_cancel_left]; exact hu
      have := hcell _ _ h7
      rw [← this]; congr 2; omega
theorem cutR_take {w : World} {G k : Nat} {A : Option Addr} {L : List (List Int)} (hs : Seen w G A (rowsC L)) : Seen w G A (rowsC (L.take k)) := by
  have h9 := rowsC_take L k
  rcases hs with hs | ⟨g, o, rfl, hg, hcell⟩
  · rw [hs] at h9
    exact .inl (List.append_eq_nil_iff.1 h9.symm).1
  · refine .inr ⟨g, o, rfl, hg, fun j u hu => hcell j u ?_⟩
    rw [h9, List.getElem?_append_left (List.getElem?_eq_some_iff.1 hu).1]; exact hu
end Go.Proofs.Ytddkhkpdbjjboaa
