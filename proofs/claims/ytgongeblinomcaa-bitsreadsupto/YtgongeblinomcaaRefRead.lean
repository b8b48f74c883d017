/- The reference's digitsOf and BitsRead. -/
import Derived.Test.YtgongeblinomcaaRefWrite
import Derived.Test.YtgongeblinomcaaBitsRead
namespace Go.Proofs.Ytgongeblinomcaa
open Go.RowKit
set_option linter.unusedVariables false
set_option linter.unusedSimpArgs false

set_option maxHeartbeats 1000000 in
theorem digitsOf_any (A : Option Addr) (c G : Nat) (bs : List Int) (w : World) (hb : Seen w G A (ints .u8 bs)) (hby : Bytes bs) (hG : G ≤ w.heap.size) (hl : bs.length ≤ 1048576) :
    Calls Try.prog 28 #[.slice A bs.length c] w fun e w' => e = .returned (.string (txt (unpack bs))) ∧ Below w.heap.size w w' := by
  go_enter Try.func28, Try.ntmps28
  go_wp2_with fail
  go_loopg [8] bs.length (fun gk i wr => ∃ k : Nat, gk = bs.length - k ∧ k ≤ bs.length ∧ i = .int .i64 k ∧ Bld w.heap.size w.heap.size (unpack (bs.take k)) wr ∧ Below w.heap.size w wr)
  case atStart => exact ⟨0, rfl, Nat.zero_le _, rfl, bld_new w, below1 _ _⟩
  case round =>
    obtain ⟨k, rfl, hk, rfl, hI, hbw⟩ := hrel
    have hz := hbw.size
    by_cases hlt : k < bs.length
    · obtain ⟨g, o, x, rfl, hg, hx, h1⟩ := hb.int hlt
      have hxb := hby x (List.mem_of_getElem? hx)
      have Hx := veil hx; clear hx
      rw [← hbw.cell (by simp; omega)] at h1
      obtain ⟨X, rfl⟩ := Int.eq_ofNat_of_zero_le hxb.1
      have hX : X ≤ 255 := by omega
      clear hxb
      go_wp2_with (first
        | (go_at_call 23; refine (binary_any 8 X _ (by omega) (by omega)).mono ?_; rintro e w1 ⟨rfl, rfl⟩)
        | (go_at_call 22; refine (writeString_any w.heap.size w.heap.size (unpack (bs.take k)) (bitsN 8 X) _ hI (by rw [bitsN_length, unpack_length]; simp; omega) hz).mono ?_; rintro e w2 ⟨rfl, hI2, hb2⟩))
      have hfin : Bld w.heap.size w.heap.size (unpack (bs.take (k + 1))) w2 := by rw [take_snoc Hx.out, unpack_snoc]; exact hI2
      clear hI hI2
      go_roundg (bs.length - (k + 1))
      case rel => exact ⟨k + 1, rfl, by omega, by go_num, hfin, hbw.trans hb2⟩
      case measure => omega
    · obtain rfl : k = bs.length := by omega
      rw [List.take_length] at hI
      go_wp2_with fail
      refine (string_any w.heap.size w.heap.size _ _ hI).mono ?_
      rintro e w1 ⟨rfl, hb1⟩
      go_wp2
      go_ret
      exact ⟨rfl, hbw.trans hb1⟩

theorem cut_unpack (bs : List Int) (a n : Nat) : ((unpack bs).drop a).take n = cutB bs a n := rfl

set_option maxHeartbeats 2000000 in
theorem refRead_any (A A2 : Option Addr) (c c2 G : Nat) (bs ws : List Int) (w : World) (hb : Seen w G A (ints .u8 bs)) (hby : Bytes bs) (hws : Seen w G A2 (ints .i64 ws)) (hG : G ≤ w.heap.size) (hl : bs.length ≤ 1048576) (hlw : ws.length ≤ maxLen) (hw64 : ∀ x ∈ ws, -9223372036854775808 ≤ x ∧ x ≤ 9223372036854775807) :
    Calls Try.prog 16 #[.slice A bs.length c, .slice A2 ws.length c2] w fun e w' => ∃ v, e = .returned (.tuple #[v, .int .i64 (readSum bs ws), .int .i64 (readErr bs ws)]) ∧ w'.ownsRow w.heap.size 3 1 v (readOut bs ws).length (ints .i64 (readOut bs ws)) ∧ Below w.heap.size w w' := by
  unfold maxLen at hlw
  by_cases hbig : 20000 < ws.length
  · have hbig' : (20000 : Int) < (ws.length : Int) := by omega
    have He : Hid (readErr bs ws = 2) := by show readErr bs ws = 2; unfold readErr; rw [if_pos hbig]
    have Ho : Hid (readOut bs ws = []) := by show readOut bs ws = []; unfold readOut; rw [He.out]; rfl
    have Hs : Hid (readSum bs ws = 0) := by show readSum bs ws = 0; unfold readSum; rw [He.out]; rfl
    go_enter Try.func16, Try.ntmps16
    go_wp2
    go_ret3
    exact ⟨_, ret_three rfl (by rw [Hs.out]; rfl) (by rw [He.out]; rfl), by rw [Ho.out]; exact World.ownsRow_nil _ _ _ _, Below.refl _ _⟩
  · have hbig' : ¬ (20000 : Int) < (ws.length : Int) := by omega
    go_enter Try.func16, Try.ntmps16
    go_wp2_with fail
    refine (digitsOf_any A c G bs _ hb hby hG hl).mono ?_
    rintro e w0 ⟨rfl, hb0⟩
    have hsz : (txt (unpack bs)).size = 8 * bs.length := by rw [txt_size, unpack_length]
    have hz0 := hb0.size
    go_wp2_with fail
    go_loopg [8, 9, 11, 19] ws.length (fun gk av v x i wr => ∃ (k at_ : Nat), gk = ws.length - k ∧ k ≤ ws.length ∧ i = .int .i64 k ∧ av = .int .i64 at_ ∧ RInv w bs ws k v at_ wr)
    case atStart => exact ⟨0, 0, rfl, Nat.zero_le _, rfl, rfl, rfl, by omega, by simp, rfl, World.ownsRow_nil _ _ _ _, hb0⟩
    case round =>
      obtain ⟨k, at_, rfl, hk, rfl, rfl, hI⟩ := hrel
      have hat := hI.at_le
      by_cases hlt : k < ws.length
      · obtain ⟨g, o, x, rfl, hg, hx, h1⟩ := hws.int hlt
        have hx64 := hw64 x (List.mem_of_getElem? hx)
        have Hx := veil hx; clear hx
        rw [← hI.bel.cell (by simp; omega)] at h1
        by_cases hok : okW x = true
        · obtain ⟨X, hX, rfl⟩ : ∃ X : Nat, X ≤ 24 ∧ x = X := by
            simp [okW] at hok
            exact ⟨x.toNat, by omega, by omega⟩
          have O1 := outside_no (X : Int) 0 24 (by omega)
          have O1 := veil O1
          by_cases hsh : 8 * (bs.length : Int) - at_ < X
          · have He := hI.stop_short Hx.out hok hsh hbig
            have Ho := readOut_err (by rw [He]; decide)
            have Hs := readSum_err (by rw [He]; decide)
            have He := veil He; have Ho := veil Ho; have Hs := veil Hs
            have hsh' : 8 * (bs.length : Int) < (at_ : Int) + (X : Int) := by omega
            go_wp2_with (go_at_call 20; refine (O1.out _).mono ?_; rintro e w1 ⟨rfl, rfl⟩)
            go_ret3
            exact ⟨_, ret_three rfl (by rw [Hs.out]; rfl) (by rw [He.out]; rfl), by rw [Ho.out]; exact World.ownsRow_nil _ _ _ _, hI.bel⟩
          · have hsh' : (at_ : Int) + (X : Int) ≤ 8 * (bs.length : Int) := by omega
            have hL : (readB (unpack bs) (ws.take k)).length ≤ 20000 := by rw [readB_length]; simp; omega
            have hB := hI.bel.size
            have hsl := slice_txt (unpack bs) (at_ : Int) ((at_ : Int) + (X : Int)) (by omega) (by omega) (by rw [unpack_length]; omega)
            rw [Int.toNat_natCast, show ((at_ : Int) + (X : Int)).toNat - at_ = X by omega, cut_unpack] at hsl
            have hcl := cutB_length bs at_ X (by omega)
            have Hcl := veil hcl; clear hcl
            go_wp2_with (first
              | (go_at_call 20; refine (O1.out _).mono ?_; rintro e w1 ⟨rfl, rfl⟩)
              | (go_at_call 29; refine (fromBinary_any (cutB bs at_ X) _ (by rw [Hcl.out]; exact hX)).mono ?_; rintro e w1 ⟨rfl, hb1⟩)
              | (at_builtin; go_loud (refine wpList_app1 _ rfl (.tmp 31) (.tmp 39) _ rfl w.heap.size 3 .i64 8 Try.underlying25 info_int _ (readB (unpack bs) (ws.take k)) _ rfl (own_below hI.own hb1) rfl (by omega) (by omega) (Nat.le_trans hB hb1.size) ?_); intro v' w' hown' hbel' hsz'))
            go_roundg (ws.length - (k + 1))
            case rel => exact ⟨k + 1, at_ + X, rfl, by omega, by go_num, by go_num, hI.step Hx.out hok (by omega) hown' ((hb1.mono hB).trans hbel')⟩
            case measure => omega
        · have hok' : okW x = false := by simpa using hok
          have O1 := veil (outside_yes x 0 24 (by simp [okW] at hok'; omega))
          have He := hI.stop_arg Hx.out hok' hbig
          have Ho := readOut_err (by rw [He]; decide)
          have Hs := readSum_err (by rw [He]; decide)
          have He := veil He; have Ho := veil Ho; have Hs := veil Hs
          clear hok
          go_wp2_with (go_at_call 20; refine (O1.out _).mono ?_; rintro e w1 ⟨rfl, rfl⟩)
          go_ret3
          exact ⟨_, ret_three rfl (by rw [Hs.out]; rfl) (by rw [He.out]; rfl), by rw [Ho.out]; exact World.ownsRow_nil _ _ _ _, hI.bel⟩
      · obtain rfl : k = ws.length := by omega
        have He := hI.done hbig
        have Ho := readOut_ok He
        have Hs := readSum_ok He
        have hw := hI.sum
        have hown := hI.own
        rw [List.take_length] at hw hown
        rw [← Ho] at hown
        rw [hw] at Hs
        have He := veil He; have Hs := veil Hs; clear Ho hw
        go_wp2
        go_ret3
        exact ⟨_, ret_three rfl (by rw [Hs.out]; rfl) (by rw [He.out]; rfl), hown, hI.bel⟩
end Go.Proofs.Ytgongeblinomcaa
