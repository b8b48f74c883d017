/- table.next: its contract. -/
import Derived.Test.YtjphfbapekdjmaaTabPre
namespace Go.Proofs.Ytjphfbapekdjmaa
open Go.RowKit
set_option linter.unusedVariables false
set_option linter.unusedSimpArgs false
set_option maxRecDepth 100000

set_option maxRecDepth 100000 in
set_option maxHeartbeats 2000000 in
theorem next_any (A : Option Addr) (c G b n : Nat) (bs : List Int) (at_ : Nat) (ws : List (Int × Nat × Nat)) (w : World) (hb : Seen w G A (ints .u8 bs)) (hG : G ≤ w.heap.size) (hby : Bytes bs) (hat : at_ ≤ 8 * bs.length) (hl : bs.length ≤ 1152921504606846975)
    (HM : MapC w b n (codeF ws)) (hpf : PF ws) :
    Calls Try.prog 29 #[.map (some b), .slice A bs.length c, .int .i64 at_] w fun e w' => e = .returned (.tuple #[.int .i64 (nextS ws ((unpack bs).drop at_)), .int .i64 (nextL ws ((unpack bs).drop at_)), .int .i64 (nextE ws ((unpack bs).drop at_))]) ∧ Below w.heap.size w w' := by
  have hbl := HM.lt
  have hlen : ((unpack bs).drop at_).length = 8 * bs.length - at_ := by rw [List.length_drop, unpack_length]
  have Hlen := veil hlen; clear hlen
  have Hpf := veil hpf; clear hpf
  have Hby := veil hby; clear hby
  have hcut : ∀ k, cutB bs at_ k = ((unpack bs).drop at_).take k := fun _ => rfl
  have Hcut := veil hcut; clear hcut
  go_enter Try.func29, Try.ntmps29
  go_wp2_with fail
  go_loopg [10, 11, 12, 13] 16 (fun gk i0 b0 s0 o0 wr => ∃ (k V : Nat), gk = 16 - k ∧ k ≤ 16 ∧ at_ + k ≤ 8 * bs.length ∧ Hid (V = valB (cutB bs at_ k)) ∧ Hid (∀ j : Nat, 1 ≤ j → j ≤ k → codeF ws ((j : Int), (valB (((unpack bs).drop at_).take j) : Int)) = none) ∧ wr = w.alloc (.cells #[.int .i64 (k : Int), .int .i64 (V : Int)] 48))
  case atStart => exact ⟨0, 0, rfl, by omega, by omega, veil rfl, veil (by intro j h1 h2; omega), rfl⟩
  case round =>
    obtain ⟨k, V, rfl, hk, hin, HV, HN, rfl⟩ := hrel
    by_cases hlt : k < 16
    · by_cases hend : at_ + k = 8 * bs.length
      · have hend' : 8 * (bs.length : Int) ≤ (at_ : Int) + k := by omega
        have hf := Hpf.out.miss (k := k) (b := (unpack bs).drop at_) (.inr (by rw [Hlen.out]; omega)) HN.out
        have h1 : nextS ws ((unpack bs).drop at_) = 0 := by unfold nextS; rw [hf]; rfl
        have h2 : nextL ws ((unpack bs).drop at_) = 0 := by unfold nextL; rw [hf]; rfl
        have h3 : nextE ws ((unpack bs).drop at_) = 3 := by unfold nextE; rw [hf, if_neg (by simp), if_pos (by rw [Hlen.out]; omega)]
        have H1 := veil h1; have H2 := veil h2; have H3 := veil h3
        clear h1 h2 h3 hf
        go_wp2
        go_ret3
        exact ⟨ret_three (by rw [H1.out]; rfl) (by rw [H2.out]; rfl) (by rw [H3.out]; rfl), below1 _ _⟩
      · have hend' : (at_ : Int) + k < 8 * (bs.length : Int) := by omega
        obtain ⟨g, o, x, rfl, hg, hx, h1⟩ := hb.int (k := (at_ + k) / 8) (by omega)
        have hxb := Hby.out x (List.mem_of_getElem? hx)
        obtain ⟨J, hJ⟩ : ∃ J, at_ + k = J := ⟨_, rfl⟩
        rw [hJ] at h1 hx
        have hst := bit_step bs at_ k J x hJ hx hxb (by omega) (by omega)
        rw [← HV.out] at hst
        obtain ⟨V', hV'⟩ : ∃ V', V' = valB (cutB bs at_ (k + 1)) := ⟨_, rfl⟩
        rw [← hV'] at hst
        have hVlt : V' < 65536 := by
          have h2 := valB_lt (cutB bs at_ (k + 1))
          rw [cutB_length _ _ _ (by omega), ← hV'] at h2
          have h3 : 2 ^ (k + 1) ≤ 2 ^ 16 := Nat.pow_le_pow_right (by omega) (by omega)
          omega
        have hJ2 : (at_ : Int) + (k : Int) = (J : Int) := by omega
        have hJ3 : J < 8 * bs.length := by omega
        have HV' := veil hV'; have HJ := veil hJ; have Hx := veil hx
        clear hV' hJ hx
        have h1' := h1
        rw [← (below1 w (Obj.cells #[Value.int IntKind.i64 (k : Int), Value.int IntKind.i64 (V : Int)] 48)).cell (by simp; omega)] at h1'
        have hbel := below1 w (Obj.cells #[Value.int IntKind.i64 ((k + 1 : Nat) : Int), Value.int IntKind.i64 (V' : Int)] 48)
        have HM2 := HM.below hbel hbl
        clear hbel
        cases hq : codeF ws (((k + 1 : Nat) : Int), (V' : Int)) with
        | none =>
          have Hq := veil hq; clear hq
          go_wp2_with (first
            | (at_lookup; go_loud (refine wpList_lookC _ rfl (.tmp 48) (.tmp 49) rfl b n (codeF ws) rfl HM2 (((k + 1 : Nat) : Int), (V' : Int)) rfl (wf_of (by omega)) (wf_of (by omega)) 0 false (by rw [Hq.out]; rfl) (by rw [Hq.out]; rfl) ?_))
            | fail)
          go_roundg (16 - (k + 1))
          case rel =>
            refine ⟨k + 1, V', rfl, by omega, by omega, HV', veil ?_, rfl⟩
            intro j h1 h2
            by_cases hj : j = k + 1
            · subst hj; rw [← Hcut.out, ← HV'.out]; exact Hq.out
            · exact HN.out j h1 (by omega)
          case measure => omega
        | some s =>
          have hf := Hpf.out.hit (b := (unpack bs).drop at_) (k := k + 1) (by rw [Hlen.out]; omega) (s := s) (by rw [← Hcut.out, ← HV'.out]; exact hq)
          have h11 : nextS ws ((unpack bs).drop at_) = s := by unfold nextS; rw [hf]; rfl
          have h12 : nextL ws ((unpack bs).drop at_) = k + 1 := by unfold nextL; rw [hf]; rfl
          have h13 : nextE ws ((unpack bs).drop at_) = 0 := by unfold nextE; rw [hf]; rfl
          have H1 := veil h11; have H2 := veil h12; have H3 := veil h13
          clear h11 h12 h13 hf
          have Hq := veil hq; clear hq
          go_wp2_with (first
            | (at_lookup; go_loud (refine wpList_lookC _ rfl (.tmp 48) (.tmp 49) rfl b n (codeF ws) rfl HM2 (((k + 1 : Nat) : Int), (V' : Int)) rfl (wf_of (by omega)) (wf_of (by omega)) s true (by rw [Hq.out]; rfl) (by rw [Hq.out]; rfl) ?_))
            | fail)
          go_quiet (fail)
          go_wp2
          go_ret3
          exact ⟨ret_three (by rw [H1.out]; rfl) (by rw [H2.out]; rfl) (by rw [H3.out]; rfl), (below1 _ _).drewN _⟩
    · obtain rfl : k = 16 := by omega
      have hf := Hpf.out.miss (k := 16) (b := (unpack bs).drop at_) (.inl rfl) HN.out
      have h1 : nextS ws ((unpack bs).drop at_) = 0 := by unfold nextS; rw [hf]; rfl
      have h2 : nextL ws ((unpack bs).drop at_) = 0 := by unfold nextL; rw [hf]; rfl
      have h3 : nextE ws ((unpack bs).drop at_) = 4 := by unfold nextE; rw [hf, if_neg (by simp), if_neg (by rw [Hlen.out]; omega)]
      have H1 := veil h1; have H2 := veil h2; have H3 := veil h3
      clear h1 h2 h3 hf
      go_wp2
      go_ret3
      exact ⟨ret_three (by rw [H1.out]; rfl) (by rw [H2.out]; rfl) (by rw [H3.out]; rfl), below1 _ _⟩
end Go.Proofs.Ytjphfbapekdjmaa
