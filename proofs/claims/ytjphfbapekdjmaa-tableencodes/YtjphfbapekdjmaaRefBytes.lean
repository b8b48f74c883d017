/- The reference's bytesOf: whole bytes out of binary digits, the rest ones. -/
import Derived.Test.YtjphfbapekdjmaaInfoByte
import Derived.Test.YtjphfbapekdjmaaRefStr
import Derived.Laws.DeepStrings4
namespace Go.Proofs.Ytjphfbapekdjmaa
open Go.RowKit
set_option linter.unusedVariables false
set_option linter.unusedSimpArgs false
set_option maxRecDepth 100000

theorem txt_extract (l : List Bool) (a b : Nat) : (txt l).extract a b = txt ((l.drop a).take (b - a)) := by
  apply ByteArray.ext
  simp [txt, dig, ByteArray.data_extract, List.map_take, List.map_drop]
theorem slice_txt (L : List Bool) (a b : Int) (ha : 0 ≤ a) (hab : a ≤ b) (hb : b ≤ L.length) (wx : World) :
    (Instr.slice 9 (.string (txt L)) (some (.int .i64 a)) (some (.int .i64 b)) none).run Try.prog wx = .ok (.string (txt ((L.drop a.toNat).take (b.toNat - a.toNat)))) wx := by
  rw [run_slice_string_if wx 9 (txt L) .i64 .i64 a b Try.underlying9, if_pos ⟨by omega, by rw [txt_size]; exact hb⟩, if_pos ⟨ha, hab⟩, txt_extract]
/-- How many ones are wanted. -/
def lack (n : Nat) : Nat := (8 - n % 8) % 8

set_option maxHeartbeats 1000000 in
theorem bytesOf_any (l : List Bool) (w : World) (hl : l.length ≤ 1000000) :
    Calls Try.prog 24 #[.string (txt l)] w fun e w' => ∃ v out, e = .returned v ∧ w'.ownsRow w.heap.size 5 1 v out.length (ints .u8 out) ∧ (Bytes out ∧ ∃ p, p < 8 ∧ unpack out = l ++ List.replicate p true) ∧ Below w.heap.size w w' := by
  go_enter Try.func24, Try.ntmps24
  go_wp2_with fail
  go_loopg [0] 8 (fun gk s wr => ∃ q : Nat, gk = 8 - q ∧ q ≤ lack l.length ∧ s = .string (txt (l ++ List.replicate q true)) ∧ w = wr)
  case atStart => exact ⟨0, rfl, Nat.zero_le _, by simp, rfl⟩
  case round =>
    obtain ⟨q, rfl, hq, rfl, rfl⟩ := hrel
    have hlk : lack l.length < 8 := Nat.mod_lt _ (by omega)
    have hsz : (txt (l ++ List.replicate q true)).size = l.length + q := by rw [txt_size]; simp
    have hone : (⟨#[49]⟩ : ByteArray) = txt [true] := rfl
    by_cases hlt : q < lack l.length
    · have hne : (((l.length : Int) + (q : Int)) % 8 != 0) = true := by rw [bne_iff_ne]; unfold lack at hlt; omega
      have hb2 : l.length + q + (txt [true]).size ≤ 9223372036854775807 := by rw [txt_size]; simp; omega
      go_wp2
      go_roundg (8 - (q + 1))
      case rel => exact ⟨q + 1, rfl, by omega, by rw [txt_append, List.append_assoc, ← List.replicate_succ'], rfl⟩
      case measure => omega
    · obtain rfl : q = lack l.length := by omega
      have hne : (((l.length : Int) + (lack l.length : Int)) % 8 != 0) = false := by simp; unfold lack; omega
      have hm : ∃ m, l.length + lack l.length = 8 * m := ⟨(l.length + lack l.length) / 8, by unfold lack; omega⟩
      obtain ⟨m, hm⟩ := hm
      generalize hL : l ++ List.replicate (lack l.length) true = L at *
      have hLl : L.length = 8 * m := by rw [← hL]; simp; omega
      have HL := veil hL; clear hL
      have Hm := veil hm; clear hm
      rw [Hm.out] at hsz
      have hne2 : ((8 * (m : Int)) % 8 != 0) = false := by simp
      have hmm : m ≤ 1000000 := by have := Hm.out; omega
      have hnat : ((l.length + lack l.length : Nat) : Int) = 8 * (m : Int) := by rw [Hm.out]; simp
      clear hne hlt hq hone
      go_wp2_with fail
      clear hnat hne2
      go_loopg [3, 4] m (fun gk v i wr => ∃ (k : Nat) (out : List Int), gk = m - k ∧ k ≤ m ∧ i = .int .i64 (8 * k : Nat) ∧ out.length = k ∧ Bytes out ∧ Hid (unpack out = L.take (8 * k)) ∧ wr.ownsRow w.heap.size 5 1 v out.length (ints .u8 out) ∧ Below w.heap.size w wr)
      case atStart => exact ⟨0, [], rfl, Nat.zero_le _, rfl, rfl, by simp [Bytes], rfl, World.ownsRow_nil _ _ _ _, Below.refl _ _⟩
      case round =>
        obtain ⟨k, out, rfl, hk, rfl, hol, hby, Hu, hown, hb⟩ := hrel
        have hB := hb.size
        by_cases hlt : k < m
        · have hlt' : (8 * (k : Int)) < 8 * (m : Int) := by omega
          have hsl := slice_txt L (8 * (k : Int)) (8 * (k : Int) + 8) (by omega) (by omega) (by omega)
          rw [show (8 * (k : Int)).toNat = 8 * k by omega, show (8 * (k : Int) + 8).toNat - 8 * k = 8 by omega] at hsl
          have hcut : ((L.drop (8 * k)).take 8).length = 8 := by simp; omega
          have hv := valB_lt ((L.drop (8 * k)).take 8)
          rw [hcut] at hv
          have hv2 : valB ((L.drop (8 * k)).take 8) ≤ 255 := by omega
          have Hol := veil hol; clear hol
          have hL2 : out.length ≤ 1000000 := by rw [Hol.out]; omega
          have Hsn : Hid (unpack (out ++ [(valB ((L.drop (8 * k)).take 8) : Int)]) = L.take (8 * (k + 1))) := by
            show unpack _ = _
            rw [unpack_snoc, Hu.out, Int.toNat_natCast]
            have e := bitsN_valB ((L.drop (8 * k)).take 8)
            rw [hcut] at e
            rw [e, show 8 * (k + 1) = 8 * k + 8 by omega, List.take_add]
          have Hcut := veil hcut
          clear hcut hv
          generalize (L.drop (8 * k)).take 8 = D at *
          go_wp2_with (first
            | (go_at_call 39; refine (fromBinary_any D _ (by rw [Hcut.out]; omega)).mono ?_; rintro e w1 ⟨rfl, hb1⟩)
            | (at_builtin; go_loud (refine wpList_app1 _ rfl (.tmp 17) (.tmp 25) _ rfl w.heap.size 5 .u8 1 Try.underlying26 info_byte _ out _ rfl (own_below hown hb1) rfl (by omega) (by omega) (Nat.le_trans hB hb1.size) ?_); intro v' w' hown' hbel' hsz'))
          go_roundg (m - (k + 1))
          case rel => exact ⟨k + 1, out ++ [(valB D : Int)], rfl, by omega, by go_num, by simp [Hol.out], hby.snoc (by omega), Hsn, hown', (hb.trans (hb1.mono hB)).trans hbel'⟩
          case measure => omega
        · obtain rfl : k = m := by omega
          go_wp2
          go_ret
          refine ⟨_, out, rfl, hown, ⟨hby, lack l.length, hlk, ?_⟩, hb⟩
          rw [Hu.out, ← HL.out, List.take_of_length_le]
          rw [HL.out]; omega
end Go.Proofs.Ytjphfbapekdjmaa
