/- bits.Write: its contract. -/
import Derived.Test.YtjphfbapekdjmaaInfoByte
import Derived.Test.YtjphfbapekdjmaaBitsFits
import Derived.Test.YtjphfbapekdjmaaSmallMath
namespace Go.Proofs.Ytjphfbapekdjmaa
open Go.RowKit
set_option linter.unusedVariables false
set_option linter.unusedSimpArgs false
set_option maxRecDepth 100000

structure WInv (w : World) (l : List (Int × Int)) (k : Nat) (v : Value) (p c : Nat) (out : List Int) (wr : World) : Prop where
  c31 : c ≤ 31
  pc : p < 2 ^ c
  by_ : Bytes out
  eq : unpack out ++ bitsN c p = fieldBits (l.take k)
  ok : ∀ f ∈ l.take k, okF f
  own : wr.ownsRow w.heap.size 5 1 v out.length (ints .u8 out)
  bel : Below w.heap.size w wr

theorem fieldBits_le (l : List (Int × Int)) (h : ∀ f ∈ l, okF f) : (fieldBits l).length ≤ 24 * l.length := by
  induction l with
  | nil => simp [fieldBits]
  | cons f l ih =>
    have h1 := (h f (by simp)).1
    have h2 := ih fun g hg => h g (by simp [hg])
    rw [fieldBits_cons, List.length_append, bitsN_length, List.length_cons]; omega
theorem WInv.len {w : World} {l : List (Int × Int)} {k : Nat} {v : Value} {p c : Nat} {out : List Int} {wr : World} (h : WInv w l k v p c out wr) : out.length ≤ 3 * l.length := by
  have h1 := congrArg List.length h.eq
  have h2 := fieldBits_le _ h.ok
  simp [unpack_length, bitsN_length] at h1 h2
  omega
theorem nat_or_low (a i b : Nat) (h : b < 2 ^ i) : a * 2 ^ i ||| b = a * 2 ^ i + b := by
  rw [Nat.mul_comm, Nat.two_pow_add_eq_or_of_lt h]
theorem i64_or (a b : Nat) (ha : a < 9223372036854775808) (hb : b < 9223372036854775808) : bits .or .i64 (a : Int) (b : Int) = ((a ||| b : Nat) : Int) := by
  have hx : a ||| b < 2 ^ 63 := Nat.or_lt_two_pow (by omega) (by omega)
  have e1 : (BitVec.ofInt 64 (a : Int)).toNat = a := by rw [BitVec.ofInt_natCast, BitVec.toNat_ofNat]; exact Nat.mod_eq_of_lt (by omega)
  have e2 : (BitVec.ofInt 64 (b : Int)).toNat = b := by rw [BitVec.ofInt_natCast, BitVec.toNat_ofNat]; exact Nat.mod_eq_of_lt (by omega)
  show IntKind.i64.wrap ((BitVec.ofInt 64 (a : Int) ||| BitVec.ofInt 64 (b : Int)).toNat : Int) = _
  rw [BitVec.toNat_or, e1, e2, IntKind.wrap_i64]
  omega
theorem i64_and (a b : Nat) (ha : a < 9223372036854775808) (hb : b < 9223372036854775808) : bits .and .i64 (a : Int) (b : Int) = ((a &&& b : Nat) : Int) := by
  have hx : a &&& b < 2 ^ 63 := Nat.and_lt_two_pow _ (by omega)
  have e1 : (BitVec.ofInt 64 (a : Int)).toNat = a := by rw [BitVec.ofInt_natCast, BitVec.toNat_ofNat]; exact Nat.mod_eq_of_lt (by omega)
  have e2 : (BitVec.ofInt 64 (b : Int)).toNat = b := by rw [BitVec.ofInt_natCast, BitVec.toNat_ofNat]; exact Nat.mod_eq_of_lt (by omega)
  show IntKind.i64.wrap ((BitVec.ofInt 64 (a : Int) &&& BitVec.ofInt 64 (b : Int)).toNat : Int) = _
  rw [BitVec.toNat_and, e1, e2, IntKind.wrap_i64]
  omega
theorem and_step (P D : Nat) (hP : P < 2 ^ (D + 8)) (hD : D + 8 ≤ 31) : bits BinOp.and IntKind.i64 (P : Int) (wrap64 (wrap64 (2 ^ D) - 1)) = ((P % 2 ^ D : Nat) : Int) := by
  have h1 : 2 ^ (D + 8) ≤ 2 ^ 31 := two_pow_lt _ _ hD
  have h2 : 2 ^ D ≤ 2 ^ 31 := two_pow_lt _ _ (by omega)
  have h3 := Nat.two_pow_pos D
  have e1 : wrap64 ((2 : Int) ^ D) = ((2 ^ D : Nat) : Int) := by rw [show ((2 : Int) ^ D) = ((2 ^ D : Nat) : Int) by simp]; exact wrap64_nat _ (by omega)
  have e2 : wrap64 (((2 ^ D : Nat) : Int) - 1) = ((2 ^ D - 1 : Nat) : Int) := by rw [show ((2 ^ D : Nat) : Int) - 1 = ((2 ^ D - 1 : Nat) : Int) by omega]; exact wrap64_nat _ (by omega)
  rw [e1, e2, i64_and _ _ (by omega) (by omega), Nat.and_two_pow_sub_one_eq_mod]
theorem or_step (p c X Y : Nat) (hp : p < 2 ^ c) (hY : Y < 2 ^ X) (hc : c < 8) (hX : X ≤ 24) :
    bits BinOp.or IntKind.i64 (wrap64 ((p : Int) * 2 ^ X)) (Y : Int) = ((p * 2 ^ X + Y : Nat) : Int) := by
  have h1 : 2 ^ c ≤ 2 ^ 8 := two_pow_lt _ _ (by omega)
  have h2 : 2 ^ X ≤ 2 ^ 24 := two_pow_lt _ _ hX
  have h3 : p * 2 ^ X ≤ 2 ^ 8 * 2 ^ 24 := Nat.mul_le_mul (by omega) h2
  have e1 : wrap64 ((p : Int) * 2 ^ X) = ((p * 2 ^ X : Nat) : Int) := by rw [show ((p : Int) * 2 ^ X) = ((p * 2 ^ X : Nat) : Int) by simp]; exact wrap64_nat _ (by omega)
  rw [e1, i64_or _ _ (by omega) (by omega), nat_or_low _ _ _ hY]
theorem pow_lt_join (p c X Y : Nat) (hp : p < 2 ^ c) (hY : Y < 2 ^ X) : p * 2 ^ X + Y < 2 ^ (c + X) := by
  have h : (p + 1) * 2 ^ X ≤ 2 ^ c * 2 ^ X := Nat.mul_le_mul_right _ hp
  rw [Nat.add_mul] at h
  rw [Nat.pow_add]; omega
theorem WInv.next {w : World} {l : List (Int × Int)} {k : Nat} {v : Value} {p c : Nat} {out : List Int} {wr wr' : World} (h : WInv w l k v p c out wr) {X Y : Nat} (hf : l[k]? = some ((X : Int), (Y : Int))) (hY : Y < 2 ^ X) (hc : c < 8) (hX : X ≤ 24)
    (hb : Below wr.heap.size wr wr') : WInv w l (k + 1) v (p * 2 ^ X + Y) (c + X) out wr' := by
  have ht := take_snoc hf
  refine ⟨by omega, pow_lt_join _ _ _ _ h.pc hY, h.by_, ?_, ?_, own_below h.own hb, h.bel.trans (hb.mono h.bel.size)⟩
  · rw [ht, fieldBits_snoc, ← h.eq, bitsN_join _ _ _ _ hY, List.append_assoc]; rfl
  · intro f hf'
    rw [ht] at hf'
    rcases List.mem_append.1 hf' with hf' | hf'
    · exact h.ok f hf'
    · simp at hf'; subst hf'
      refine ⟨⟨by simp, by simp; omega⟩, by simp, ?_⟩
      have : ((Y : Nat) : Int) < ((2 ^ X : Nat) : Int) := by omega
      simpa using this
theorem WInv.step {w : World} {l : List (Int × Int)} {k : Nat} {v v' : Value} {P D : Nat} {out : List Int} {wr w' : World} (h : WInv w l k v P (D + 8) out wr)
    (hown : w'.ownsRow w.heap.size 5 1 v' (out ++ [(P : Int) / 2 ^ D % 256]).length (ints .u8 (out ++ [(P : Int) / 2 ^ D % 256]))) (hb : Below w.heap.size wr w') :
    WInv w l k v' (P % 2 ^ D) D (out ++ [(P : Int) / 2 ^ D % 256]) w' := by
  have hc := h.c31
  have hq : P / 2 ^ D < 256 := by rw [Nat.div_lt_iff_lt_mul (Nat.two_pow_pos D)]; have := h.pc; rw [Nat.pow_add] at this; omega
  have e : (P : Int) / 2 ^ D % 256 = ((P / 2 ^ D : Nat) : Int) := by
    rw [show ((P : Int) / 2 ^ D) = ((P / 2 ^ D : Nat) : Int) by simp]; generalize P / 2 ^ D = q at *; omega
  refine ⟨by omega, Nat.mod_lt _ (Nat.two_pow_pos D), ?_, ?_, h.ok, hown, h.bel.trans hb⟩
  · exact h.by_.snoc (by rw [e]; omega)
  · rw [e, unpack_snoc, Int.toNat_natCast, ← h.eq, List.append_assoc, bitsN_mod, Nat.add_comm D 8, bitsN_add 8 D]
theorem last_byte (p c : Nat) (hp : p < 2 ^ c) (hc : c < 8) : wrap64 (wrap64 (wrap64 ((p : Int) + 1) * 2 ^ (8 - c)) - 1) % 256 = ((p * 2 ^ (8 - c) + (2 ^ (8 - c) - 1) : Nat) : Int) := by
  have h0 : 2 ^ c ≤ 2 ^ 8 := two_pow_lt _ _ (by omega)
  have e0 : wrap64 ((p : Int) + 1) = (p : Int) + 1 := by unfold wrap64; omega
  have h1 : (p + 1) * 2 ^ (8 - c) ≤ 2 ^ c * 2 ^ (8 - c) := Nat.mul_le_mul_right _ hp
  rw [← Nat.pow_add, show c + (8 - c) = 8 by omega] at h1
  have h2 := Nat.two_pow_pos (8 - c)
  have e1 : ((p : Int) + 1) * 2 ^ (8 - c) = (((p + 1) * 2 ^ (8 - c) : Nat) : Int) := by simp
  rw [e0, e1, wrap64_nat _ (by omega)]
  have e2 : (((p + 1) * 2 ^ (8 - c) : Nat) : Int) - 1 = (((p + 1) * 2 ^ (8 - c) - 1 : Nat) : Int) := by
    have : 0 < (p + 1) * 2 ^ (8 - c) := Nat.mul_pos (by omega) h2
    omega
  rw [e2, wrap64_nat _ (by omega)]
  rw [Nat.add_mul] at h1 ⊢
  omega
theorem WInv.last {w : World} {l : List (Int × Int)} {k : Nat} {v : Value} {p c : Nat} {out : List Int} {wr : World} (h : WInv w l k v p c out wr) (hc : c < 8) (hc0 : 0 < c) (hok : writeErr l = 0) (heq : unpack out ++ bitsN c p = fieldBits l) :
    Written l (out ++ [wrap64 (wrap64 (wrap64 ((p : Int) + 1) * 2 ^ (8 - c)) - 1) % 256]) := by
  refine ⟨fun e => absurd hok e, fun _ => ?_⟩
  rw [last_byte p c h.pc hc]
  have h2 := Nat.two_pow_pos (8 - c)
  have hlt : p * 2 ^ (8 - c) + (2 ^ (8 - c) - 1) < 2 ^ (c + (8 - c)) := pow_lt_join _ _ _ _ h.pc (by omega)
  rw [show c + (8 - c) = 8 by omega] at hlt
  refine ⟨h.by_.snoc (by omega), 8 - c, by omega, ?_⟩
  rw [unpack_snoc, Int.toNat_natCast, ← heq, List.append_assoc]
  have := bitsN_join c (8 - c) p (2 ^ (8 - c) - 1) (by omega)
  rw [show c + (8 - c) = 8 by omega] at this
  rw [this, bitsN_ones]
theorem written_err {l : List (Int × Int)} (h : writeErr l ≠ 0) : Written l [] := ⟨fun _ => rfl, fun e => absurd e h⟩
set_option maxHeartbeats 1000000 in
theorem write_any (A : Option Addr) (c G : Nat) (l : List (Int × Int)) (w : World) (hl : Seen w G A (pairCells l)) (hG : G ≤ w.heap.size) (hlen : l.length ≤ maxLen) :
    Calls Try.prog 21 #[.slice A l.length c] w fun e w' => ∃ v out, e = .returned (.tuple #[v, .int .i64 (writeErr l)]) ∧ w'.ownsRow w.heap.size 5 1 v out.length (ints .u8 out) ∧ Written l out ∧ Below w.heap.size w w' := by
  unfold maxLen at hlen
  by_cases hbig : 20000 < l.length
  · have hbig' : (20000 : Int) < (l.length : Int) := by omega
    have He : Hid (writeErr l = 2) := by show writeErr l = 2; unfold writeErr; rw [if_pos hbig]
    go_enter Try.func21, Try.ntmps21
    go_wp2
    go_ret2
    exact ⟨_, [], ret_two rfl (by rw [He.out]; rfl), World.ownsRow_nil _ _ _ _, written_err (by rw [He.out]; decide), Below.refl _ _⟩
  · have hbig' : ¬ (20000 : Int) < (l.length : Int) := by omega
    go_enter Try.func21, Try.ntmps21
    go_wp2_with fail
    go_loopg [4, 5, 6, 15] l.length (fun gk v pv cv i wr => ∃ (k p c : Nat) (out : List Int), gk = l.length - k ∧ k ≤ l.length ∧ c < 8 ∧ i = .int .i64 k ∧ pv = .int .i64 p ∧ cv = .int .i64 c ∧ WInv w l k v p c out wr)
    case atStart => exact ⟨0, 0, 0, [], by omega, Nat.zero_le _, by omega, rfl, rfl, rfl, by omega, by omega, by simp [Bytes], rfl, by simp, World.ownsRow_nil _ _ _ _, Below.refl _ _⟩
    case round =>
      obtain ⟨k, p, c, out, rfl, hk, hc8, rfl, rfl, rfl, hI⟩ := hrel
      by_cases hlt : k < l.length
      · obtain ⟨g, o, x, y, rfl, hg, hf, h1, h2⟩ := hl.pair hlt
        have Hf := veil hf; clear hf
        rw [← hI.bel.cell (by simp; omega)] at h1 h2
        by_cases hok : fitsB (x, y) = true
        · have hx : okF (x, y) := by simpa [fitsB] using hok
          obtain ⟨X, Y, hX, HY, rfl, rfl⟩ : ∃ X Y : Nat, X ≤ 24 ∧ Hid (Y < 2 ^ X) ∧ x = X ∧ y = Y := by
            obtain ⟨⟨hx0, hx1⟩, hy0, Hy1⟩ := hx
            refine ⟨x.toNat, y.toNat, by omega, ?_, by omega, by omega⟩
            have : ((y.toNat : Nat) : Int) < ((2 ^ x.toNat : Nat) : Int) := by simp; simp at Hy1; omega
            show y.toNat < 2 ^ x.toNat
            omega
          clear hx
          go_wp2_with fail
          refine (fits_any _ _ _).mono ?_
          rintro e w1 ⟨rfl, hb1⟩
          have c0 : w1.cell? ⟨wr.heap.size, 0, none⟩ = some (.int .i64 X) := by rw [hb1.cell (by simp)]; simp
          have c1 : w1.cell? ⟨wr.heap.size, 1, none⟩ = some (.int .i64 Y) := by rw [hb1.cell (by simp)]; simp
          go_wp2_with fail
          go_quiet (fail)
          go_wp2_with fail
          have e1 := or_step p c X Y hI.pc HY.out hc8 hX
          rw [e1]
          clear e1
          go_loopg [4, 5, 6] (c + X) (fun gk v pv cv wr2 => ∃ (P C : Nat) (out : List Int), C = gk ∧ pv = .int .i64 P ∧ cv = .int .i64 C ∧ WInv w l (k + 1) v P C out wr2)
          case atStart => exact ⟨p * 2 ^ X + Y, c + X, out, rfl, rfl, by go_num, hI.next Hf.out HY.out hc8 hX ((below1 _ _).trans (hb1.mono (by simp)) |>.drewN _)⟩
          case round =>
            obtain ⟨P, C, out2, rfl, rfl, rfl, hJ⟩ := hrel
            have hC := hJ.c31
            by_cases h8 : 8 ≤ C
            · obtain ⟨D, rfl⟩ : ∃ D, C = D + 8 := ⟨C - 8, by omega⟩
              have hL := hJ.len (k := k + 1)
              have hB := hJ.bel.size
              go_wp2_with (at_builtin; go_loud (refine wpList_app1 _ rfl (.tmp 37) (.tmp 42) _ rfl w.heap.size 5 .u8 1 Try.underlying26 info_byte _ out2 _ rfl hJ.own rfl (by omega) (by omega) (by omega) ?_); intro v' w' hown' hbel' hsz')
              go_roundg D
              case rel =>
                rw [and_step P D hJ.pc hC]
                exact ⟨P % 2 ^ D, D, _, rfl, rfl, rfl, hJ.step hown' hbel'⟩
              case measure => omega
            · have h8' : C < 8 := by omega
              go_wp2
              go_roundg (l.length - (k + 1))
              case rel => exact ⟨k + 1, P, C, out2, rfl, by omega, h8', by go_num, rfl, rfl, hJ⟩
              case measure => omega
        · have hok' : fitsB (x, y) = false := by simpa using hok
          have He : Hid (writeErr l = 1) := by
            show writeErr l = 1
            unfold writeErr
            rw [if_neg hbig, if_neg]
            intro hall
            have := hall (x, y) (List.mem_of_getElem? Hf.out)
            simp [fitsB] at hok'
            exact hok' this
          clear hok
          go_wp2_with fail
          refine (fits_any _ _ _).mono ?_
          rintro e w1 ⟨rfl, hb1⟩
          go_wp2
          go_ret2
          exact ⟨_, [], ret_two rfl (by rw [He.out]; rfl), World.ownsRow_nil _ _ _ _, written_err (by rw [He.out]; decide), hI.bel.trans (((below1 _ _).trans (hb1.mono (by simp))).mono hI.bel.size)⟩
      · have hke : k = l.length := by omega
        have Hok : Hid (writeErr l = 0) := by
          show writeErr l = 0
          unfold writeErr
          rw [if_neg hbig, if_pos]
          have := hI.ok
          rwa [List.take_of_length_le (by omega)] at this
        have Heq : Hid (unpack out ++ bitsN c p = fieldBits l) := by
          have := hI.eq
          rwa [List.take_of_length_le (by omega)] at this
        have hL := hI.len
        have hB := hI.bel.size
        by_cases hc0 : c = 0
        · subst hc0
          go_wp2
          go_ret2
          refine ⟨_, out, ret_two rfl (by rw [Hok.out]; rfl), hI.own, ⟨fun h => absurd Hok.out h, fun _ => ⟨hI.by_, 0, by omega, ?_⟩⟩, hI.bel⟩
          have := Heq.out
          simpa [bitsN] using this
        · go_wp2_with (at_builtin; go_loud (refine wpList_app1 _ rfl (.tmp 54) (.tmp 61) _ rfl w.heap.size 5 .u8 1 Try.underlying26 info_byte _ out _ rfl hI.own rfl (by omega) (by omega) (by omega) ?_); intro v' w' hown' hbel' hsz')
          go_ret2
          exact ⟨_, _, ret_two rfl (by rw [Hok.out]; rfl), hown', hI.last hc8 (by omega) Hok.out Heq.out, hI.bel.trans hbel'⟩
end Go.Proofs.Ytjphfbapekdjmaa
