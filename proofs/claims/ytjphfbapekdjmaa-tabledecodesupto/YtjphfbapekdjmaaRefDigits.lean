/- The reference's digitsOf. -/
import Derived.Test.YtjphfbapekdjmaaRefBuild
import Derived.Test.YtjphfbapekdjmaaRefStr
namespace Go.Proofs.Ytjphfbapekdjmaa
open Go.RowKit
set_option linter.unusedVariables false
set_option linter.unusedSimpArgs false
set_option maxRecDepth 100000

set_option maxHeartbeats 1000000 in
theorem digitsOf_any (A : Option Addr) (c G : Nat) (bs : List Int) (w : World) (hb : Seen w G A (ints .u8 bs)) (hby : Bytes bs) (hG : G ≤ w.heap.size) (hl : bs.length ≤ 1048576) :
    Calls Try.prog 31 #[.slice A bs.length c] w fun e w' => e = .returned (.string (txt (unpack bs))) ∧ Below w.heap.size w w' := by
  go_enter Try.func31, Try.ntmps31
  go_wp2_with fail
  go_loopg [8] bs.length (fun gk i wr => ∃ k : Nat, gk = bs.length - k ∧ k ≤ bs.length ∧ i = .int .i64 k ∧ Bld w.heap.size w.heap.size (unpack (bs.take k)) wr ∧ Below w.heap.size w wr)
  case atStart => exact ⟨0, rfl, Nat.zero_le _, rfl, bld_new w, below1 _ _⟩
  case round =>
    obtain ⟨k, rfl, hk, rfl, hI, hbw⟩ := hrel
    have hz := hbw.size
    by_cases hlt : k < bs.length
    · obtain ⟨g, o, x, rfl, hg, hx, h1⟩ := hb.int hlt
      have hxb := hby x (List.mem_of_getElem? hx)
      have Hx := veil hx; clear hx
      rw [← hbw.cell (by simp; omega)] at h1
      obtain ⟨X, rfl⟩ := Int.eq_ofNat_of_zero_le hxb.1
      have hX : X ≤ 255 := by omega
      clear hxb
      go_wp2_with (first
        | (go_at_call 42; refine (binary_any 8 X _ (by omega) (by omega)).mono ?_; rintro e w1 ⟨rfl, rfl⟩)
        | (go_at_call 41; refine (writeString_any w.heap.size w.heap.size (unpack (bs.take k)) (bitsN 8 X) _ hI (by rw [bitsN_length, unpack_length]; simp; omega) hz).mono ?_; rintro e w2 ⟨rfl, hI2, hb2⟩))
      have hfin : Bld w.heap.size w.heap.size (unpack (bs.take (k + 1))) w2 := by rw [take_snoc Hx.out, unpack_snoc]; exact hI2
      clear hI hI2
      go_roundg (bs.length - (k + 1))
      case rel => exact ⟨k + 1, rfl, by omega, by go_num, hfin, hbw.trans hb2⟩
      case measure => omega
    · obtain rfl : k = bs.length := by omega
      rw [List.take_length] at hI
      go_wp2_with fail
      refine (string_any w.heap.size w.heap.size _ _ hI).mono ?_
      rintro e w1 ⟨rfl, hb1⟩
      go_wp2
      go_ret
      exact ⟨rfl, hbw.trans hb1⟩
end Go.Proofs.Ytjphfbapekdjmaa
