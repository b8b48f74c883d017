/- StuffSize: its walk. -/
import Derived.Test.YtnddlehhgholhaaStuffed
namespace Go.Proofs.Ytnddlehhgholhaa
open Go.RowKit
set_option linter.unusedVariables false
set_option linter.unusedSimpArgs false

theorem count_snoc {bs : List Int} {k : Nat} {x : Int} (h : bs[k]? = some x) : (bs.take (k + 1)).countP (· == 255) = (bs.take k).countP (· == 255) + if x = 255 then 1 else 0 := by
  rw [take_snoc h, List.countP_append]; simp [List.countP_cons]
set_option maxHeartbeats 1000000 in
theorem stuffSize_walk (A : Option Addr) (c : Nat) (bs : List Int) (w : World) (hb : Seen w w.heap.size A (ints .u8 bs)) (hbw : ∀ x ∈ bs, (Lit.int .u8 x).wf = true) (hbl : bs.length ≤ maxLen) (hl : bs.length ≤ 1048576) :
    Calls Try.prog 9 #[.slice A bs.length c] w fun e w' => e = .returned (.bool true) ∧ Below w.heap.size w w' := by
  clear hbw hbl
  go_enter Try.func9, Try.ntmps9
  go_wp2_with fail
  go_loopg [3, 5, 8] bs.length (fun gk m x i wr => ∃ (k n : Nat), gk = bs.length - k ∧ k ≤ bs.length ∧ n ≤ k ∧ i = .int .i64 k ∧ m = .int .i64 n ∧ Hid (n = (bs.take k).countP (· == 255)) ∧ w = wr)
  case atStart => exact ⟨0, 0, rfl, Nat.zero_le _, Nat.le_refl _, rfl, rfl, veil (by simp), rfl⟩
  case round =>
    obtain ⟨k, n, rfl, hk, hn, rfl, rfl, Hn, rfl⟩ := hrel
    by_cases hlt : k < bs.length
    · obtain ⟨g, o, x, rfl, hg, hx, h1⟩ := hb.int hlt
      have Hx := veil (count_snoc hx); clear hx
      by_cases h255 : x = 255
      · subst h255
        go_wp2
        go_roundg (bs.length - (k + 1))
        case rel => exact ⟨k + 1, n + 1, rfl, by omega, by omega, by go_num, by go_num, veil (by rw [Hx.out, ← Hn.out]; rfl), rfl⟩
        case measure => omega
      · have hb0 : (x == 255) = false := by simpa using h255
        have H255 := veil h255; clear h255
        go_wp2
        go_roundg (bs.length - (k + 1))
        case rel => exact ⟨k + 1, n, rfl, by omega, by omega, by go_num, rfl, veil (by rw [Hx.out, ← Hn.out, if_neg H255.out]; rfl), rfl⟩
        case measure => omega
    · obtain rfl : k = bs.length := by omega
      have hn2 := Hn.out
      rw [List.take_length] at hn2
      have hlen : (stuffB bs).length = bs.length + n := by rw [stuffB_length, hn2]
      have Hlen := veil hlen
      have hle : (stuffB bs).length ≤ 140737488355328 := by omega
      clear hn2 hlen
      go_wp2_with fail
      refine (stuffed_any _).mono ?_
      rintro e w1 ⟨rfl, hb1⟩
      go_wp2_with fail
      refine (stuff_any _ _ _ bs _ (hb.below hb1 (Nat.le_refl _)) hb1.size hle).mono ?_
      rintro e w2 ⟨v, rfl, HO, hb2⟩
      obtain ⟨A2, c2, f2, _, _, _⟩ := HO.seen (List.mem_cons_self ..)
      simp only [byteRow, intRow, Hlen.out] at f2
      subst f2
      clear HO
      go_wp2
      go_ret
      exact ⟨ret_bool (by simp), hb1.trans (hb2.mono hb1.size)⟩
end Go.Proofs.Ytnddlehhgholhaa
