/- table.Decode: its contract. -/
import Derived.Test.YtjphfbapekdjmaaTabSyms
import Derived.Test.YtjphfbapekdjmaaTabDec
namespace Go.Proofs.Ytjphfbapekdjmaa
open Go.RowKit
set_option linter.unusedVariables false
set_option linter.unusedSimpArgs false
set_option maxRecDepth 100000

set_option maxRecDepth 100000 in
set_option maxHeartbeats 2000000 in
theorem decode_any (cs syms bs : List Int) (n : Int) (A A2 : Option Addr) (c c2 G : Nat) (w : World) (hcs : cs.length = 16) (hn : syms.length ≤ maxLen) (hb : ∀ x ∈ cs, -9223372036854775808 ≤ x ∧ x ≤ 9223372036854775807) (hs : Seen w G A (ints .i64 syms)) (hG : G ≤ w.heap.size)
    (hx : Seen w G A2 (ints .u8 bs)) (hby : Bytes bs) (hl : bs.length ≤ 1152921504606846975) :
    Calls Try.prog 13 #[tabV cs A syms.length c, .slice A2 bs.length c2, .int .i64 n] w fun e w' => ∃ v, e = .returned (.tuple #[v, .int .i64 (decLong cs syms bs n), .int .i64 (decErr cs syms bs n)]) ∧ Owns w.heap.size [numRow v (decOut cs syms bs n)] w' ∧ Below w.heap.size w w' := by
  have hlen17 : (tabCells cs A syms.length c).length = 17 := tabCells_length hcs
  have hck := fun w1 h1 hG1 => symbols_any cs syms A c G w1 hcs hn hb h1 hG1
  have Hcs := veil hcs; have Hby := veil hby
  clear hcs hb hby
  obtain ⟨ys, hys⟩ : ∃ ys, ys = tabCells cs A syms.length c := ⟨_, rfl⟩
  have Hr := veil (range_new w ys 25)
  unfold tabV at hck ⊢
  rw [← hys] at hlen17 hck ⊢
  clear hys
  have Hck := veil hck; clear hck
  have H17 := veil hlen17; clear hlen17
  go_enter Try.func13, Try.ntmps13
  go_wp2_with (first
    | (refine wpList_load_mid rfl 25 (.tmp 3) rfl w.heap.size 0 rfl ys _ Hr.out Try.underlying25 rfl (by rw [H17.out]; exact info_tab) ?_)
    | fail)
  refine (Hck.out _ (hs.alloc hG _) (by simp; omega)).mono ?_
  rintro e w1 ⟨v, rfl, hok, hbad, hb1⟩
  have hbel1 : Below w.heap.size w w1 := (below1 _ _).trans (hb1.mono (by simp))
  have hz1 := hb1.size
  simp at hz1
  clear Hr hb1 Hck
  by_cases h0 : checkErr cs syms = 0
  · rw [h0]
    by_cases hrg : 0 ≤ n ∧ n ≤ 20000
    · obtain ⟨N, rfl⟩ := Int.eq_ofNat_of_zero_le hrg.1
      have hN : N ≤ 20000 := by omega
      have he1 : decErr cs syms bs N = (dec (outWords cs syms) N (unpack bs)).1 := by unfold decErr; rw [if_pos h0, if_pos hrg]; rfl
      clear hrg
      obtain ⟨l, hf, how, hll⟩ := fine_of h0
      have hpf := hf.pf Hcs.out
      obtain ⟨b, rfl, hbb, HM⟩ := hok h0
      rw [← how] at hpf
      have Hpf := veil hpf
      have H0 := veil h0; have He1 := veil he1
      clear hll hf how h0 hpf he1 hok hbad
      obtain ⟨ws, hws⟩ : ∃ ws, ws = outWords cs syms := ⟨_, rfl⟩
      rw [← hws] at HM Hpf He1
      have Hws := veil hws
      clear hws
      have hbel2 := hbel1
      have hz2 : w1.heap.size ≤ w1.heap.size := Nat.le_refl _
      have hbl := HM.lt
      have hmk := run_make_ints N (by omega) w1
      go_wp2_with fail
      go_loopg [11, 12, 13, 14, 15, 33] N (fun gk v av s0 l0 e0 i wr => ∃ (k at_ : Nat) (acc : List Int), gk = N - k ∧ k ≤ N ∧ i = .int .i64 k ∧ av = .int .i64 at_ ∧ Hid (DInv ws N (unpack bs) k at_ acc) ∧ at_ ≤ 8 * bs.length ∧ acc.length = k ∧ Owns w1.heap.size [numRow v acc] wr ∧ Below w1.heap.size w1 wr)
      case atStart =>
        refine ⟨0, 0, [], rfl, Nat.zero_le _, rfl, rfl, veil (DInv.start _ _ _), by omega, rfl, ?_, below1 _ _⟩
        exact (Owns.start w1).made 3 1 _ N (by unfold maxLen; omega) (by simp [madeCells])
      case round =>
        obtain ⟨k, at_, acc, rfl, hk, rfl, rfl, HD, hat, hal, HO, hbel⟩ := hrel
        have hz := hbel.size
        have HMr := HM.below hbel hbl
        by_cases hlt : k < N
        · have hnx := next_any A2 c2 w.heap.size b syms.length bs at_ ws wr ((hx.up hG).below (hbel2.trans (hbel.mono hbel2.size)) (Nat.le_refl _)) (Nat.le_trans hbel2.size hz) Hby.out hat hl HMr Hpf.out
          have hL := nextL_le (ws := ws) (b := (unpack bs).drop at_)
          rw [List.length_drop, unpack_length] at hL
          have Hal := veil hal; clear hal
          by_cases he : nextE ws ((unpack bs).drop at_) = 0
          · have hD2 := HD.out.next hlt he
            rw [he] at hnx
            have Hnx := veil hnx; have HD2 := veil hD2
            clear hnx hD2 he
            generalize nextL ws ((unpack bs).drop at_) = L at *
            generalize nextS ws ((unpack bs).drop at_) = sy at *
            go_wp2_with fail
            refine Hnx.out.mono ?_
            rintro e w3 ⟨rfl, hb3⟩
            have HO3 := HO.below hb3
            have hbel3 := hbel.trans (hb3.mono hz)
            have hw : IntKind.i64.wrap ((at_ : Int) + L) = (at_ : Int) + L := by rw [IntKind.wrap_i64]; omega
            clear Hnx HO
            go_wp2_with (first
              | (at_builtin; go_loud (refine wpList_ownI _ rfl (.tmp 46) (.tmp 48) _ rfl w1.heap.size 3 .i64 8 elem_int u11 acc [] rfl HO3 [sy] rfl (by have := Hal.out; unfold maxLen; simp; omega) (by have := Hal.out; simp; omega) ?_); intro v4 w4 HO4 hb4 hz4))
            go_roundg (N - (k + 1))
            case rel => exact ⟨k + 1, at_ + L, acc ++ [sy], rfl, by omega, by go_num, by go_num, HD2, by omega, by have := Hal.out; simp; omega, HO4, hbel3.trans hb4⟩
            case measure => omega
          · have hst := HD.out.stop hlt he
            have hee : decErr cs syms bs N = nextE ws ((unpack bs).drop at_) := by rw [He1.out, hst]
            have ho : decOut cs syms bs N = [] := decOut_err (by rw [hee]; exact he)
            have hll : decLong cs syms bs N = 0 := decLong_err (by rw [hee]; exact he)
            have hne : (nextE ws ((unpack bs).drop at_) != 0) = true := by simpa using he
            have Hnx := veil hnx; have Hee := veil hee; have Ho := veil ho; have Hll := veil hll
            clear hnx hst hee ho hll he
            obtain ⟨E, hE⟩ : ∃ E, E = nextE ws ((unpack bs).drop at_) := ⟨_, rfl⟩
            rw [← hE] at hne Hnx Hee
            clear hE
            go_wp2_with fail
            refine Hnx.out.mono ?_
            rintro e w3 ⟨rfl, hb3⟩
            have hbel3 := (hbel2.trans (hbel.mono hbel2.size)).trans (hb3.mono (Nat.le_trans hbel2.size hz))
            go_wp2
            go_ret3
            exact ⟨_, ret_three rfl (by rw [Hll.out]; rfl) (by rw [Hee.out]; rfl), by rw [Ho.out]; exact (Owns.nil hbel3.size).fresh _ _, hbel3⟩
        · obtain rfl : k = N := by omega
          have hd := HD.out.done
          have hee : decErr cs syms bs k = 0 := by rw [He1.out, hd]
          have ho : decOut cs syms bs k = acc := by unfold decOut; rw [if_pos hee, ← Hws.out, Int.toNat_natCast, hd]
          have hll : decLong cs syms bs k = at_ := by unfold decLong; rw [if_pos hee, ← Hws.out, Int.toNat_natCast, hd]
          have Hee := veil hee; have Ho := veil ho; have Hll := veil hll
          clear hd hee ho hll
          go_wp2
          go_ret3
          exact ⟨_, ret_three rfl (by rw [Hll.out]; rfl) (by rw [Hee.out]; rfl), by rw [Ho.out]; exact HO.down hbel2.size, hbel2.trans (hbel.mono hbel2.size)⟩
    · have he : decErr cs syms bs n = 1 := by unfold decErr; rw [if_pos h0, if_neg hrg]
      have ho : decOut cs syms bs n = [] := decOut_err (by rw [he]; decide)
      have hll : decLong cs syms bs n = 0 := decLong_err (by rw [he]; decide)
      have He := veil he; have Ho := veil ho; have Hll := veil hll
      clear he ho hll hok hbad h0
      by_cases hn0 : n < 0
      · clear hrg
        go_wp2
        go_ret3
        exact ⟨_, ret_three rfl (by rw [Hll.out]; rfl) (by rw [He.out]; rfl), by rw [Ho.out]; exact (Owns.nil hbel1.size).fresh _ _, hbel1⟩
      · have hn1 : 20000 < n := by omega
        clear hrg
        go_wp2
        go_ret3
        exact ⟨_, ret_three rfl (by rw [Hll.out]; rfl) (by rw [He.out]; rfl), by rw [Ho.out]; exact (Owns.nil hbel1.size).fresh _ _, hbel1⟩
  · have he : decErr cs syms bs n = checkErr cs syms := by unfold decErr; rw [if_neg h0]
    have ho : decOut cs syms bs n = [] := decOut_err (by rw [he]; exact h0)
    have hll : decLong cs syms bs n = 0 := decLong_err (by rw [he]; exact h0)
    have hne : (checkErr cs syms != 0) = true := by simpa using h0
    clear h0 hok hbad
    obtain ⟨E, hE⟩ : ∃ E, E = checkErr cs syms := ⟨_, rfl⟩
    rw [← hE] at hne he ⊢
    have He := veil he; have Ho := veil ho; have Hll := veil hll
    clear hE he ho hll
    go_wp2
    go_ret3
    exact ⟨_, ret_three rfl (by rw [Hll.out]; rfl) (by rw [He.out]; rfl), by rw [Ho.out]; exact (Owns.nil hbel1.size).fresh _ _, hbel1⟩
end Go.Proofs.Ytjphfbapekdjmaa
