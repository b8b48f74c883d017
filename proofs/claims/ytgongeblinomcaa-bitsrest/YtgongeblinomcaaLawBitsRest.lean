/- BitsRest: its walk. -/
import Derived.Test.YtgongeblinomcaaWritten
namespace Go.Proofs.Ytgongeblinomcaa
open Go.RowKit
set_option linter.unusedVariables false
set_option linter.unusedSimpArgs false

theorem writeErr_zero {l : List (Int × Int)} (h : writeErr l = 0) : l.length ≤ 20000 ∧ ∀ f ∈ l, okF f := by
  unfold writeErr at h
  by_cases h1 : 20000 < l.length
  · rw [if_pos h1] at h; cases h
  · rw [if_neg h1] at h
    by_cases h2 : ∀ f ∈ l, okF f
    · exact ⟨by omega, h2⟩
    · rw [if_neg h2] at h; cases h
theorem rest_ones {l : List (Int × Int)} {out : List Int} {p : Nat} (hp : p < 8) (h : unpack out = fieldBits l ++ List.replicate p true) {x : Int} (hx : out[out.length - 1]? = some x) : x.toNat % 2 ^ p = 2 ^ p - 1 := by
  have hne : out ≠ [] := by intro e; subst e; simp at hx
  obtain ⟨a, b, rfl⟩ := list_snoc out hne
  have : b = x := by simpa using hx
  subst this
  rw [unpack_snoc, show 8 = (8 - p) + p by omega, bitsN_add, ← List.append_assoc] at h
  have h2 := (List.append_inj' h (by simp [bitsN_length])).2
  rw [← bitsN_ones, ← bitsN_mod] at h2
  have hpp := Nat.two_pow_pos p
  exact bitsN_inj (Nat.mod_lt _ hpp) (by omega) h2
theorem last_and {x : Int} (hx : 0 ≤ x ∧ x ≤ 255) {p : Nat} (hp : p < 8) (h : x.toNat % 2 ^ p = 2 ^ p - 1) :
    (bits BinOp.and IntKind.i64 x (wrap64 (wrap64 (2 ^ p) - 1)) == wrap64 (wrap64 (2 ^ p) - 1)) = true := by
  obtain ⟨X, rfl⟩ := Int.eq_ofNat_of_zero_le hx.1
  have h2 : 2 ^ p ≤ 2 ^ 8 := two_pow_lt _ _ (by omega)
  have h3 := Nat.two_pow_pos p
  have e1 : wrap64 ((2 : Int) ^ p) = ((2 ^ p : Nat) : Int) := by rw [show ((2 : Int) ^ p) = ((2 ^ p : Nat) : Int) by simp]; exact wrap64_nat _ (by omega)
  have e2 : wrap64 (((2 ^ p : Nat) : Int) - 1) = ((2 ^ p - 1 : Nat) : Int) := by rw [show ((2 ^ p : Nat) : Int) - 1 = ((2 ^ p - 1 : Nat) : Int) by omega]; exact wrap64_nat _ (by omega)
  rw [e1, e2, i64_and _ _ (by omega) (by omega), Nat.and_two_pow_sub_one_eq_mod]
  rw [Int.toNat_natCast] at h
  rw [h]; simp

set_option maxHeartbeats 1000000 in
theorem bitsRest_walk (A : Option Addr) (c : Nat) (l : List (Int × Int)) (w : World) (hl : Seen w w.heap.size A (pairCells l)) (hwf : ∀ f ∈ l, (Lit.int .i64 f.1).wf = true ∧ (Lit.int .i64 f.2).wf = true) (hlen : l.length ≤ maxLen) :
    Calls Try.prog 7 #[.slice A l.length c] w fun e w' => e = .returned (.bool true) ∧ Below w.heap.size w w' := by
  go_enter Try.func7, Try.ntmps7
  go_wp2_with fail
  refine (written_any _).mono ?_
  rintro e w1 ⟨rfl, hb1⟩
  go_wp2_with fail
  refine (write_any A c _ l _ (hl.below hb1 (Nat.le_refl _)) hb1.size hlen).mono ?_
  rintro e w2 ⟨v, out, rfl, hown, hW, hb2⟩
  obtain ⟨A2, c2, rfl, hs⟩ := own_form hown
  have hb : Below w.heap.size w w2 := hb1.trans (hb2.mono hb1.size)
  by_cases he : writeErr l = 0
  · obtain ⟨hbig, hok⟩ := writeErr_zero he
    obtain ⟨hby, p, hp, heq⟩ := hW.2 he
    rw [he]
    by_cases h0 : out.length = 0
    · have h0' : ((out.length : Int) == 0) = true := by simp [h0]
      clear heq
      go_wp2
      go_ret
      exact ⟨ret_bool (by simp [h0]), hb⟩
    · have h0' : ((out.length : Int) == 0) = false := by rw [beq_eq_false_iff_ne]; omega
      have hT := congrArg List.length heq
      simp [unpack_length] at hT
      have HT := veil hT; have Heq := veil heq
      clear hT heq he
      have hlen' : out.length ≤ 60000 + 1 := by have h1 := fieldBits_le l hok; have h2 := HT.out; omega
      go_wp2_with fail
      go_loopg [5, 28] l.length (fun gk m i wr => ∃ k : Nat, gk = l.length - k ∧ k ≤ l.length ∧ i = .int .i64 k ∧ m = .int .i64 ((fieldBits (l.take k)).length : Nat) ∧ Below w2.heap.size w2 wr)
      case atStart => exact ⟨0, rfl, Nat.zero_le _, rfl, rfl, Below.refl _ _⟩
      case round =>
        obtain ⟨k, rfl, hk, rfl, rfl, hbr⟩ := hrel
        by_cases hlt : k < l.length
        · obtain ⟨g, o, x, y, rfl, hg, hf, h1, h2⟩ := hl.pair hlt
          rw [← hb.cell (by simpa using hg), ← hbr.cell (by have := hb.size; simp; omega)] at h1 h2
          have hx := (hok _ (List.mem_of_getElem? hf)).1
          have hle := fieldBits_le (l.take k) (fun f hf => hok f (List.mem_of_mem_take hf))
          simp at hle
          have Hf := veil hf; clear hf
          obtain ⟨X, hX, rfl⟩ : ∃ X : Nat, X ≤ 24 ∧ x = X := ⟨x.toNat, by simp at hx; omega, by simp at hx; omega⟩
          clear hx
          go_wp2
          go_roundg (l.length - (k + 1))
          case rel => exact ⟨k + 1, rfl, by omega, by go_num, by rw [take_snoc Hf.out, fieldBits_snoc, List.length_append, bitsN_length]; go_num, hbr.alloc hbr.size _⟩
          case measure => omega
        · obtain rfl : k = l.length := by omega
          rw [List.take_length]
          obtain ⟨g, o, x, rfl, hg, hx, h1⟩ := (hs.below hbr (Nat.le_refl _)).int (k := out.length - 1) (by omega)
          have hxb := hby x (List.mem_of_getElem? hx)
          have hones := last_and hxb hp (rest_ones hp Heq.out hx)
          have Hones := veil hones; clear hones hx
          generalize (fieldBits l).length = T at *
          obtain rfl : T = 8 * out.length - p := by have := HT.out; omega
          go_wp2_with fail
          have ep : (8 * (out.length : Int) - ((8 * out.length - p : Nat) : Int)) = (p : Int) := by omega
          rw [ep]
          clear ep
          have g1 : decide ((0 : Int) ≤ p) = true := by simp
          have g2 : decide ((p : Int) < 8) = true := by simp; omega
          have g3 : (0 : Int) ≤ (out.length : Int) - 1 := by omega
          have g4 : (out.length : Int) - 1 < (out.length : Int) := by omega
          go_quiet (fail)
          go_wp2
          go_ret
          exact ⟨ret_bool Hones.out, ((hb.trans (hbr.mono hb.size))).drewN _⟩
  · have he1 : (writeErr l != 0) = true := by simpa using he
    obtain rfl := hW.1 he
    go_wp2
    go_ret
    exact ⟨rfl, hb⟩
end Go.Proofs.Ytgongeblinomcaa
