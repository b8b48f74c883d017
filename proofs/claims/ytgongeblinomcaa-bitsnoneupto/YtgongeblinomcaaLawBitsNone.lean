/- BitsNone: its walk. -/
import Derived.Test.YtgongeblinomcaaWritten
import Derived.Test.YtgongeblinomcaaRest
import Derived.OpenShut
namespace Go.Proofs.Ytgongeblinomcaa
open Go.RowKit
set_option linter.unusedVariables false
set_option linter.unusedSimpArgs false

/-- The fields with an empty one among them. -/
def withNone (l : List (Int × Int)) (k : Nat) : List (Int × Int) := l.take k ++ [(0, 0)] ++ l.drop k
theorem withNone_bits (l : List (Int × Int)) (k : Nat) : fieldBits l = fieldBits (withNone l k) := by
  have e : fieldBits l = fieldBits (l.take k) ++ fieldBits (l.drop k) := by rw [← fieldBits_append, List.take_append_drop]
  rw [e, withNone, fieldBits_append, fieldBits_append]
  simp [fieldBits, bitsN]
theorem withNone_length (l : List (Int × Int)) (k : Nat) (h : k ≤ l.length) : (withNone l k).length = l.length + 1 := by
  simp [withNone]; omega
theorem withNone_err {l : List (Int × Int)} {k : Nat} (hk : k ≤ l.length) (h : writeErr l = 0) (hne : writeErr (withNone l k) ≠ 0) : l.length = 20000 := by
  obtain ⟨h1, h2⟩ := writeErr_zero' h
  by_cases hl : l.length = 20000
  · exact hl
  · exfalso
    apply hne
    unfold writeErr
    rw [if_neg (by rw [withNone_length l k hk]; omega), if_pos]
    intro f hf
    simp only [withNone, List.mem_append] at hf
    rcases hf with (hf | hf) | hf
    · exact h2 f (List.mem_of_mem_take hf)
    · simp at hf; subst hf; decide
    · exact h2 f (List.mem_of_mem_drop hf)
theorem unpack_take (bs : List Int) (m : Nat) : unpack (bs.take m) = (unpack bs).take (8 * m) := by
  induction bs generalizing m with
  | nil => simp [unpack]
  | cons x bs ih =>
    cases m with
    | zero => simp [unpack]
    | succ m =>
      have h1 : (bitsN 8 x.toNat).take (8 * (m + 1)) = bitsN 8 x.toNat := List.take_of_length_le (by rw [bitsN_length]; omega)
      rw [List.take_succ_cons, unpack_cons, unpack_cons, ih, List.take_append, bitsN_length, h1, show 8 * (m + 1) - 8 = 8 * m by omega]
theorem Bytes.take {bs : List Int} (h : Bytes bs) (m : Nat) : Bytes (bs.take m) := fun x hx => h x (List.mem_of_mem_take hx)
/-- What follows does not turn the whole bytes ahead of it. -/
theorem front_same {l more : List (Int × Int)} {a c : List Int} (ha : Written l a) (hc : Written (l ++ more) c) (hl : writeErr l = 0) (hm : writeErr (l ++ more) = 0) :
    (fieldBits l).length / 8 ≤ a.length ∧ (fieldBits l).length / 8 ≤ c.length ∧ a.take ((fieldBits l).length / 8) = c.take ((fieldBits l).length / 8) := by
  obtain ⟨ba, p, hp, ea⟩ := ha.2 hl
  obtain ⟨bc, q, hq, ec⟩ := hc.2 hm
  have h1 := congrArg List.length ea
  have h2 := congrArg List.length ec
  rw [fieldBits_append] at ec h2
  simp [unpack_length] at h1 h2
  refine ⟨by omega, by omega, unpack_inj (ba.take _) (bc.take _) ?_⟩
  rw [unpack_take, unpack_take, ea, ec]
  rw [List.take_append_of_le_length (by omega), List.append_assoc, List.take_append_of_le_length (by omega)]

theorem one2 (a b : Int) : ∀ u ∈ [Value.int .i64 a, .int .i64 b], u.oneCell' = true := by
  intro u hu; simp at hu; rcases hu with rfl | rfl <;> rfl
theorem none_cells (l : List (Int × Int)) (k : Nat) : [] ++ pairCells (l.take k) ++ [Value.int .i64 0, .int .i64 0] ++ pairCells (l.drop k) = pairCells (withNone l k) := by
  rw [withNone, pairCells_append, pairCells_append]; rfl

theorem one0 : ∀ u ∈ ([] : List Value), u.oneCell' = true := by intro u hu; cases hu
theorem none_cells0 {l : List (Int × Int)} {k : Nat} (h : l.length ≤ k) : [] ++ pairCells (l.take k) ++ [Value.int .i64 0, .int .i64 0] ++ [] = pairCells (withNone l k) := by
  rw [withNone, pairCells_append, pairCells_append, List.drop_eq_nil_of_le h]; rfl

set_option maxHeartbeats 2000000 in
theorem bitsNone_walk (A : Option Addr) (c : Nat) (l : List (Int × Int)) (A' : Option Addr) (c' : Nat) (more : List (Int × Int)) (at0 : Int) (w : World)
    (hl : Seen w w.heap.size A (pairCells l)) (hwf : ∀ f ∈ l, (Lit.int .i64 f.1).wf = true ∧ (Lit.int .i64 f.2).wf = true) (hlen : l.length ≤ maxLen) (hcap : l.length ≤ c) (hcm : c ≤ maxLen) (hl' : l.length ≤ 1048576)
    (hm : Seen w w.heap.size A' (pairCells more)) (hwf' : ∀ f ∈ more, (Lit.int .i64 f.1).wf = true ∧ (Lit.int .i64 f.2).wf = true) (hmlen : more.length ≤ maxLen) (hm' : more.length ≤ 1048576)
    (hat0 : -9223372036854775808 ≤ at0 ∧ at0 ≤ 9223372036854775807) :
    Calls Try.prog 10 #[.slice A l.length c, .slice A' more.length c', .int .i64 at0] w fun e w' => e = .returned (.bool true) ∧ Below w.heap.size w w' := by
  clear hwf hwf'
  go_enter Try.func10, Try.ntmps10
  go_wp2_with fail
  refine (written_any _).mono ?_
  rintro e w1 ⟨rfl, hb1⟩
  go_wp2_with fail
  refine (rest_any at0 ((l.length : Int) + 1) _ (by omega) (by omega) hat0).mono ?_
  rintro e w1' ⟨rfl, rfl⟩
  obtain ⟨k, hk, hkk⟩ : ∃ k : Nat, k ≤ l.length ∧ at0 % ((l.length : Int) + 1) = k := by
    have h1 := Int.emod_nonneg at0 (b := (l.length : Int) + 1) (by omega)
    have h2 := Int.emod_lt_of_pos at0 (b := (l.length : Int) + 1) (by omega)
    exact ⟨(at0 % ((l.length : Int) + 1)).toNat, by omega, by omega⟩
  rw [hkk]
  clear hkk
  go_wp2_with fail
  refine (write_any A c _ l _ (hl.below hb1 (Nat.le_refl _)) hb1.size hlen).mono ?_
  rintro e W ⟨v, outa, rfl, hown, hWa, hb2⟩
  obtain ⟨A2, c2, rfl, hs2, hcap2, hmax2⟩ := own_form' hown
  have hbW : Below w.heap.size w W := hb1.trans (hb2.mono hb1.size)
  have hWa := veil hWa
  have sl := (hl.below hbW (Nat.le_refl _))
  have s1 := sl.takePairs k
  have hkl : (pairCells (l.take k)).length = k * 2 := by rw [pairCells_length, List.length_take]; omega
  have Hkl := veil hkl; clear hkl
  have hd : (pairCells (l.drop k)).length = (l.length - k) * 2 := by rw [pairCells_length, List.length_drop]; omega
  have Hd := veil hd; clear hd
  have hBW := hbW.size
  have hr1 : 0 + k ≤ maxLen := by unfold maxLen; omega
  have hr2 : (0 + k) * 16 ≤ 140737488355328 := by omega
  have hr3 : 0 + k + 1 ≤ maxLen := by unfold maxLen; omega
  have hr4 : (0 + k + 1) * 16 ≤ 140737488355328 := by omega
  have hr5 : 0 + k + 1 + (l.length - k) ≤ maxLen := by unfold maxLen; omega
  have hr6 : (0 + k + 1 + (l.length - k)) * 16 ≤ 140737488355328 := by omega
  have hb3 : (0 : Int) ≤ (k : Int) := by omega
  have hb4 : (k : Int) ≤ (l.length : Int) := by omega
  have hb5 : (l.length : Int) ≤ (c : Int) := by omega
  have hb6 : (k : Int) ≤ (c : Int) := by omega
  have hn : 0 + k + 1 + (l.length - k) = (withNone l k).length := by rw [withNone_length l k hk]; omega
  have Hn := veil hn; clear hn
  go_wp2_with fail
  by_cases hck : c = k
  · obtain rfl : k = c := hck.symm
    have hkl : l.length ≤ k := by omega
    have hr7 : 0 + k + 1 + 0 ≤ maxLen := by unfold maxLen; omega
    have hr8 : (0 + k + 1 + 0) * 16 ≤ 140737488355328 := by omega
    have hn0 : 0 + k + 1 + 0 = (withNone l k).length := by rw [withNone_length l k hk]; omega
    have Hn0 := veil hn0; clear hn0
    go_region_held3 (fun _ => True) (trivial)
          (first
            | (refine step_appV _ ?a1xp (.const (.slice none 0 0)) (.tmp 31) _ ?a2xp W.heap.size 32 2 16 elem_field (.slice none 0 0) 0 [] ?a3xp (World.ownsRow_nil _ _ _ _) w.heap.size A k k (pairCells (l.take k)) ?a4xp s1 Hkl.out pairCells_one hr1 hr2 (Nat.le_refl _) ?_
               case a2xp => rfl
               case a1xp => rfl
               case a3xp => rfl
               case a4xp => rfl
               intro v' w' hown' hgr' hbel')
            | (refine step_appV _ ?a1yp (.const (.slice none 0 0)) (.tmp 31) _ ?a2yp W.heap.size 32 2 16 elem_field (.slice none 0 0) 0 [] ?a3yp (World.ownsRow_nil _ _ _ _) w.heap.size A k k (pairCells (l.take k)) ?a4yp (s1.alloc hBW _) Hkl.out pairCells_one hr1 hr2 (Nat.le_of_lt (size_new W.drew _)) ?_
               case a2yp => rfl
               case a1yp => rfl
               case a3yp => rfl
               case a4yp => rfl
               intro v' w' hown' hgr' hbel')
            | (refine step_appV _ ?b1xp (.tmp 32) (.tmp 34) _ ?b2xp W.heap.size 32 2 16 elem_field v' (0 + k) ([] ++ pairCells (l.take k)) ?b3xp (hown'.alloc _) (W.heap.size + 1 + w'.heap.size) (some ⟨w'.heap.size, 0, none⟩) 1 1 _ ?b4xp (Seen.new w' _ _ _ (Nat.lt_add_of_pos_left (Nat.succ_pos _))) ?b5xp ?b6xp hr3 hr4 (size_alloc hbel') ?_
               case b2xp => rfl
               case b1xp => rfl
               case b3xp => rfl
               case b4xp => rfl
               case b5xp => rfl
               case b6xp => exact one2 _ _
               intro v2 w2 hown2 hgr2 hbel2)
            | (refine step_appV _ ?b1yp (.tmp 32) (.tmp 34) _ ?b2yp W.heap.size 32 2 16 elem_field v' (0 + k) ([] ++ pairCells (l.take k)) ?b3yp hown' (W.heap.size + 1 + w'.heap.size) (some ⟨W.heap.size, 0, none⟩) 1 1 _ ?b4yp (seen_after hgr') ?b5yp ?b6yp hr3 hr4 (size_after hbel') ?_
               case b2yp => rfl
               case b1yp => rfl
               case b3yp => rfl
               case b4yp => rfl
               case b5yp => rfl
               case b6yp => exact one2 _ _
               intro v2 w2 hown2 hgr2 hbel2)
            | (refine step_appV _ ?c1xp (.tmp 35) (.tmp 38) _ ?c2xp W.heap.size 32 2 16 elem_field v2 (0 + k + 1) ([] ++ pairCells (l.take k) ++ [.int .i64 0, .int .i64 0]) ?c3xp hown2 w.heap.size A 0 0 [] ?c4xp (.inl rfl) rfl one0 hr7 hr8 (Nat.le_trans (Nat.le_refl _) ((below_wx hbel' hbel2 (Nat.le_refl _))).size) ?_
               case c2xp => rfl
               case c1xp => rfl
               case c3xp => rfl
               case c4xp => rfl
               intro v3 w3 hown3 hgr3 hbel3
               have hb03 : Below W.heap.size W w3 := ((below_wx hbel' hbel2 (Nat.le_refl _))).trans hbel3
               clear hgr' hgr2 hgr3 hbel' hbel2 hbel3 hown' hown2
               rw [none_cells0 hkl, Hn0.out] at hown3
               generalize hM : withNone l k = M at hown3
               have HM := veil hM; clear hM
               obtain ⟨A4, c4, rfl, hs4⟩ := own_form hown3)
            | (refine step_appV _ ?c1yp (.tmp 35) (.tmp 38) _ ?c2yp W.heap.size 32 2 16 elem_field v2 (0 + k + 1) ([] ++ pairCells (l.take k) ++ [.int .i64 0, .int .i64 0]) ?c3yp hown2 w.heap.size A 0 0 [] ?c4yp (.inl rfl) rfl one0 hr7 hr8 (Nat.le_trans (Nat.le_refl _) ((below_wy hbel' hbel2 (Nat.le_refl _))).size) ?_
               case c2yp => rfl
               case c1yp => rfl
               case c3yp => rfl
               case c4yp => rfl
               intro v3 w3 hown3 hgr3 hbel3
               have hb03 : Below W.heap.size W w3 := ((below_wy hbel' hbel2 (Nat.le_refl _))).trans hbel3
               clear hgr' hgr2 hgr3 hbel' hbel2 hbel3 hown' hown2
               rw [none_cells0 hkl, Hn0.out] at hown3
               generalize hM : withNone l k = M at hown3
               have HM := veil hM; clear hM
               obtain ⟨A4, c4, rfl, hs4⟩ := own_form hown3)
            | (go_at_call 12
               refine (write_any A4 c4 _ M _ hs4 (Nat.le_refl _) (by rw [← HM.out, withNone_length l k hk]; unfold maxLen; omega)).mono ?_
               rintro e W5 ⟨v5, outb, rfl, hown5, hWb, hb5⟩
               have hb05 := hb03.trans (hb5.mono hb03.size)
               clear hs4 hown3 hb5 hb03
               obtain ⟨A5, c5, rfl, hs5⟩ := own_form hown5)
            | fail)
    all_goals
      have hWb := veil hWb
      have hs2' := hs2.below hb05 (Nat.le_refl _)
      have hb5w := hbW.trans (hb05.mono hbW.size)
      have hz5 := hb05.size
      have sl5 := hl.below hb5w (Nat.le_refl _)
      have sm5 := hm.below hb5w (Nat.le_refl _)
      have hll : (pairCells l).length = l.length * 2 := by rw [pairCells_length]; omega
      have hml : (pairCells more).length = more.length * 2 := by rw [pairCells_length]; omega
      have Hll := veil hll; have Hml := veil hml
      clear hll hml hown5 hown Hkl Hd Hn s1 sl hr1 hr2 hr3 hr4 hr5 hr6
      go_wp2_with (first
        | (at_builtin; refine wpList_appV _ rfl (.const (.slice none 0 0)) (.tmp 44) _ rfl W5.heap.size 32 2 16 elem_field (.slice none 0 0) 0 [] rfl (World.ownsRow_nil _ _ _ _) w.heap.size A l.length _ (pairCells l) rfl sl5 Hll.out pairCells_one (by unfold maxLen; omega) (by omega) (Nat.le_refl _) ?_; intro v6 w6 hown6 hbel6)
        | (at_builtin; refine wpList_appV _ rfl (.tmp 45) (.tmp 46) _ rfl W5.heap.size 32 2 16 elem_field v6 (0 + l.length) ([] ++ pairCells l) rfl hown6 w.heap.size A' more.length c' (pairCells more) rfl (sm5.below hbel6 (by omega)) Hml.out pairCells_one (by unfold maxLen; omega) (by omega) hbel6.size ?_; intro v7 w7 hown7 hbel7))
      have hown8 : w7.ownsRow W5.heap.size 32 2 v7 (l ++ more).length (pairCells (l ++ more)) := by
        rw [pairCells_append, List.length_append]; simpa using hown7
      clear hown7 hown6
      have hml2 : (l ++ more).length ≤ maxLen := by rw [List.length_append]; unfold maxLen; omega
      generalize hLM : l ++ more = LM at hown8 hml2
      have HLM := veil hLM; clear hLM
      obtain ⟨A8, c8, rfl, hs8⟩ := own_form hown8
      have hb57 : Below W5.heap.size W5 w7 := hbel6.trans hbel7
      refine (write_any A8 c8 _ LM _ hs8 (Nat.le_refl _) hml2).mono ?_
      rintro e W9 ⟨v9, outc, rfl, hown9, hWc, hb9⟩
      obtain ⟨A9, c9, rfl, hs9, hcap9, hmax9⟩ := own_form' hown9
      have hWc := veil hWc
      have hb59 := hb57.trans (hb9.mono hb57.size)
      have hb9w := hb5w.trans (hb59.mono hb5w.size)
      have hs2c := hs2'.below hb59 (by omega)
      have hs5c := hs5.below hb59 (Nat.le_refl _)
      clear hs2' hb57 hb9 hbel6 hbel7 hown8 hown9 sl5 sm5 hs8
      have hz9 := hb59.size
      by_cases he : writeErr l = 0
      · by_cases hf : writeErr M = 0
        · by_cases hg : writeErr LM = 0
          · rw [he, hf, hg]
            have He := veil he; have Hf := veil hf; have Hg := veil hg
            clear he hf hg
            obtain ⟨hbig, hok⟩ := writeErr_zero' He.out
            have hle := fieldBits_le l hok
            go_wp2_with fail
            have hslw := hl.below hb9w (Nat.le_refl _)
            have hz9w := hb9w.size
            obtain ⟨f1, f2, f3⟩ := front_same hWa.out (by have := hWc.out; rw [← HLM.out] at this; exact this) He.out (by rw [HLM.out]; exact Hg.out)
            have f3 := veil f3
            obtain rfl : outa = outb := hWa.out.alike (by have := hWb.out; rw [← HM.out] at this; exact this) He.out (by rw [HM.out]; exact Hf.out) (withNone_bits l k)
            have hla := out_len hWa.out He.out
            have hlc := out_len hWc.out Hg.out
            generalize hT : (fieldBits l).length = T at f1 f2 f3 hle
            have HT := veil hT; clear hT
            go_loopg [13, 78] l.length (fun gk m i wr => ∃ j : Nat, gk = l.length - j ∧ j ≤ l.length ∧ i = .int .i64 j ∧ m = .int .i64 ((fieldBits (l.take j)).length : Nat) ∧ Below W9.heap.size W9 wr)
            case atStart => exact ⟨0, rfl, Nat.zero_le _, rfl, rfl, Below.refl _ _⟩
            case round =>
              obtain ⟨j, rfl, hj, rfl, rfl, hbr⟩ := hrel
              by_cases hlt : j < l.length
              · obtain ⟨g, o, x, y, rfl, hg, hf, h1, h2⟩ := hslw.pair hlt
                rw [← hbr.cell (by simp; omega)] at h1 h2
                have hx := (hok _ (List.mem_of_getElem? hf)).1
                have hle2 := fieldBits_le (l.take j) (fun f hf => hok f (List.mem_of_mem_take hf))
                simp at hle2
                have Hf2 := veil hf; clear hf
                obtain ⟨X, hX, rfl⟩ : ∃ X : Nat, X ≤ 24 ∧ x = X := ⟨x.toNat, by simp at hx; omega, by simp at hx; omega⟩
                clear hx
                go_wp2
                go_roundg (l.length - (j + 1))
                case rel => exact ⟨j + 1, rfl, by omega, by go_num, by rw [take_snoc Hf2.out, fieldBits_snoc, List.length_append, bitsN_length]; go_num, hbr.alloc hbr.size _⟩
                case measure => omega
              · obtain rfl : j = l.length := by omega
                rw [List.take_length, HT.out]
                have g1 : (0 : Int) ≤ (T : Int) / 8 := by omega
                have g2 : (T : Int) / 8 ≤ (c2 : Int) := by omega
                have g3 : (T : Int) / 8 ≤ (c9 : Int) := by omega
                have g4 : decide ((T : Int) / 8 ≤ (outc.length : Int)) = true := by simp; omega
                have q1 := (hs2c.below hbr (by omega)).up (B' := W9.heap.size) (by omega)
                have q2 := (hs5c.below hbr (by omega)).up (B' := W9.heap.size) (by omega)
                have q3 := hs9.below hbr (Nat.le_refl _)
                have hTa : (outa.take (T / 8)).length = T / 8 := by simp; omega
                have hTc : (outc.take (T / 8)).length = T / 8 := by simp; omega
                have HTa := veil hTa; have HTc := veil hTc; clear hTa hTc
                have E1 : ∀ n, Calls Try.prog 14 #[.slice A2 outa.length c2, .slice A5 outa.length c5] (wr.drewN n) fun e w' => e = .returned (.bool true) ∧ w' = wr.drewN n := fun n =>
                  (eqByte A2 A5 c2 c5 W9.heap.size outa outa (wr.drewN n) (q1.of _ _ fun _ _ => rfl) (q2.of _ _ fun _ _ => rfl) hla hla).mono fun e w' h => ⟨by rw [h.1]; simp, h.2.symm⟩
                have E2 : ∀ n, Calls Try.prog 14 #[.slice A2 (T / 8) c2, .slice A9 (T / 8) c9] (wr.drewN n) fun e w' => e = .returned (.bool true) ∧ w' = wr.drewN n := fun n => by
                  have h := eqByte A2 A9 c2 c9 W9.heap.size (outa.take (T / 8)) (outc.take (T / 8)) (wr.drewN n) ((q1.takeInts _).of _ _ fun _ _ => rfl) ((q3.takeInts _).of _ _ fun _ _ => rfl) (by rw [HTa.out]; unfold maxLen at *; omega) (by rw [HTc.out]; unfold maxLen at *; omega)
                  rw [HTa.out, HTc.out] at h
                  exact h.mono fun e w' h => ⟨by rw [h.1, decide_eq_true f3.out], h.2.symm⟩
                have E1 := veil E1; have E2 := veil E2
                go_wp2_with fail
                go_quiet (first | (go_at_call 14; with_reducible exact Calls.quiet_of_same (E1.out _)) | (go_at_call 14; with_reducible exact Calls.quiet_of_same (E2.out _)))
                go_wp2
                go_ret
                exact ⟨rfl, (hb9w.trans (hbr.mono hz9w)).drewN _⟩
          · have hg' : (writeErr LM != 0) = true := by simpa using hg
            rw [he, hf]
            clear he hf hg
            go_wp2
            go_ret
            exact ⟨rfl, hb9w⟩
        · have hf' : (writeErr M != 0) = true := by simpa using hf
          have h20 : l.length = 20000 := withNone_err hk he (by rw [HM.out]; exact hf)
          have h20' : ((l.length : Int) == 20000) = true := by simp [h20]
          rw [he]
          clear he hf h20
          go_wp2
          go_ret
          exact ⟨rfl, hb9w⟩
      · have he' : (writeErr l != 0) = true := by simpa using he
        clear he
        go_wp2
        go_ret
        exact ⟨rfl, hb9w⟩
  · have sd : Seen W w.heap.size (A.map fun x => x.add (k * 2)) (pairCells (l.drop k)) := by
      rcases A with _ | ad
      · have : pairCells l = [] := by
          rcases sl with h | ⟨_, _, h, _⟩
          · exact h
          · cases h
        refine .inl ?_
        rw [← List.take_append_drop k l, pairCells_append] at this
        exact (List.append_eq_nil_iff.1 this).2
      · rcases sl with h | ⟨g, o, h, hg, hc⟩
        · refine .inl ?_
          rw [← List.take_append_drop k l, pairCells_append] at h
          exact (List.append_eq_nil_iff.1 h).2
        · injection h with h
          subst h
          simp only [Option.map_some, addr_add]
          exact Seen.dropPairs (.inr ⟨g, o, rfl, hg, hc⟩) k hk
    go_region_held3 (fun _ => True) (trivial)
          (first
            | (refine step_appV _ ?a1xq (.const (.slice none 0 0)) (.tmp 31) _ ?a2xq W.heap.size 32 2 16 elem_field (.slice none 0 0) 0 [] ?a3xq (World.ownsRow_nil _ _ _ _) w.heap.size A k c (pairCells (l.take k)) ?a4xq s1 Hkl.out pairCells_one hr1 hr2 (Nat.le_refl _) ?_
               case a2xq => rfl
               case a1xq => rfl
               case a3xq => rfl
               case a4xq => rfl
               intro v' w' hown' hgr' hbel')
            | (refine step_appV _ ?a1yq (.const (.slice none 0 0)) (.tmp 31) _ ?a2yq W.heap.size 32 2 16 elem_field (.slice none 0 0) 0 [] ?a3yq (World.ownsRow_nil _ _ _ _) w.heap.size A k c (pairCells (l.take k)) ?a4yq (s1.alloc hBW _) Hkl.out pairCells_one hr1 hr2 (Nat.le_of_lt (size_new W.drew _)) ?_
               case a2yq => rfl
               case a1yq => rfl
               case a3yq => rfl
               case a4yq => rfl
               intro v' w' hown' hgr' hbel')
            | (refine step_appV _ ?b1xq (.tmp 32) (.tmp 34) _ ?b2xq W.heap.size 32 2 16 elem_field v' (0 + k) ([] ++ pairCells (l.take k)) ?b3xq (hown'.alloc _) (W.heap.size + 1 + w'.heap.size) (some ⟨w'.heap.size, 0, none⟩) 1 1 _ ?b4xq (Seen.new w' _ _ _ (Nat.lt_add_of_pos_left (Nat.succ_pos _))) ?b5xq ?b6xq hr3 hr4 (size_alloc hbel') ?_
               case b2xq => rfl
               case b1xq => rfl
               case b3xq => rfl
               case b4xq => rfl
               case b5xq => rfl
               case b6xq => exact one2 _ _
               intro v2 w2 hown2 hgr2 hbel2)
            | (refine step_appV _ ?b1yq (.tmp 32) (.tmp 34) _ ?b2yq W.heap.size 32 2 16 elem_field v' (0 + k) ([] ++ pairCells (l.take k)) ?b3yq hown' (W.heap.size + 1 + w'.heap.size) (some ⟨W.heap.size, 0, none⟩) 1 1 _ ?b4yq (seen_after hgr') ?b5yq ?b6yq hr3 hr4 (size_after hbel') ?_
               case b2yq => rfl
               case b1yq => rfl
               case b3yq => rfl
               case b4yq => rfl
               case b5yq => rfl
               case b6yq => exact one2 _ _
               intro v2 w2 hown2 hgr2 hbel2)
            | (refine step_appV _ ?c1xq (.tmp 35) (.tmp 38) _ ?c2xq W.heap.size 32 2 16 elem_field v2 (0 + k + 1) ([] ++ pairCells (l.take k) ++ [.int .i64 0, .int .i64 0]) ?c3xq hown2 w.heap.size (A.map fun x => x.add (k * 2)) (l.length - k) (c - k) (pairCells (l.drop k)) ?c4xq (sd.below (below_wx hbel' hbel2 (Nat.le_refl _)) hBW) Hd.out pairCells_one hr5 hr6 (Nat.le_trans (Nat.le_refl _) ((below_wx hbel' hbel2 (Nat.le_refl _))).size) ?_
               case c2xq => rfl
               case c1xq => rfl
               case c3xq => rfl
               case c4xq => rfl
               intro v3 w3 hown3 hgr3 hbel3
               have hb03 : Below W.heap.size W w3 := ((below_wx hbel' hbel2 (Nat.le_refl _))).trans hbel3
               clear hgr' hgr2 hgr3 hbel' hbel2 hbel3 hown' hown2
               rw [none_cells, Hn.out] at hown3
               generalize hM : withNone l k = M at hown3
               have HM := veil hM; clear hM
               obtain ⟨A4, c4, rfl, hs4⟩ := own_form hown3)
            | (refine step_appV _ ?c1yq (.tmp 35) (.tmp 38) _ ?c2yq W.heap.size 32 2 16 elem_field v2 (0 + k + 1) ([] ++ pairCells (l.take k) ++ [.int .i64 0, .int .i64 0]) ?c3yq hown2 w.heap.size (A.map fun x => x.add (k * 2)) (l.length - k) (c - k) (pairCells (l.drop k)) ?c4yq (sd.below (below_wy hbel' hbel2 (Nat.le_refl _)) hBW) Hd.out pairCells_one hr5 hr6 (Nat.le_trans (Nat.le_refl _) ((below_wy hbel' hbel2 (Nat.le_refl _))).size) ?_
               case c2yq => rfl
               case c1yq => rfl
               case c3yq => rfl
               case c4yq => rfl
               intro v3 w3 hown3 hgr3 hbel3
               have hb03 : Below W.heap.size W w3 := ((below_wy hbel' hbel2 (Nat.le_refl _))).trans hbel3
               clear hgr' hgr2 hgr3 hbel' hbel2 hbel3 hown' hown2
               rw [none_cells, Hn.out] at hown3
               generalize hM : withNone l k = M at hown3
               have HM := veil hM; clear hM
               obtain ⟨A4, c4, rfl, hs4⟩ := own_form hown3)
            | (go_at_call 12
               refine (write_any A4 c4 _ M _ hs4 (Nat.le_refl _) (by rw [← HM.out, withNone_length l k hk]; unfold maxLen; omega)).mono ?_
               rintro e W5 ⟨v5, outb, rfl, hown5, hWb, hb5⟩
               have hb05 := hb03.trans (hb5.mono hb03.size)
               clear hs4 hown3 hb5 hb03
               obtain ⟨A5, c5, rfl, hs5⟩ := own_form hown5)
            | fail)
    all_goals
      have hWb := veil hWb
      have hs2' := hs2.below hb05 (Nat.le_refl _)
      have hb5w := hbW.trans (hb05.mono hbW.size)
      have hz5 := hb05.size
      have sl5 := hl.below hb5w (Nat.le_refl _)
      have sm5 := hm.below hb5w (Nat.le_refl _)
      have hll : (pairCells l).length = l.length * 2 := by rw [pairCells_length]; omega
      have hml : (pairCells more).length = more.length * 2 := by rw [pairCells_length]; omega
      have Hll := veil hll; have Hml := veil hml
      clear hll hml hown5 hown Hkl Hd Hn s1 sl hr1 hr2 hr3 hr4 hr5 hr6
      go_wp2_with (first
        | (at_builtin; refine wpList_appV _ rfl (.const (.slice none 0 0)) (.tmp 44) _ rfl W5.heap.size 32 2 16 elem_field (.slice none 0 0) 0 [] rfl (World.ownsRow_nil _ _ _ _) w.heap.size A l.length _ (pairCells l) rfl sl5 Hll.out pairCells_one (by unfold maxLen; omega) (by omega) (Nat.le_refl _) ?_; intro v6 w6 hown6 hbel6)
        | (at_builtin; refine wpList_appV _ rfl (.tmp 45) (.tmp 46) _ rfl W5.heap.size 32 2 16 elem_field v6 (0 + l.length) ([] ++ pairCells l) rfl hown6 w.heap.size A' more.length c' (pairCells more) rfl (sm5.below hbel6 (by omega)) Hml.out pairCells_one (by unfold maxLen; omega) (by omega) hbel6.size ?_; intro v7 w7 hown7 hbel7))
      have hown8 : w7.ownsRow W5.heap.size 32 2 v7 (l ++ more).length (pairCells (l ++ more)) := by
        rw [pairCells_append, List.length_append]; simpa using hown7
      clear hown7 hown6
      have hml2 : (l ++ more).length ≤ maxLen := by rw [List.length_append]; unfold maxLen; omega
      generalize hLM : l ++ more = LM at hown8 hml2
      have HLM := veil hLM; clear hLM
      obtain ⟨A8, c8, rfl, hs8⟩ := own_form hown8
      have hb57 : Below W5.heap.size W5 w7 := hbel6.trans hbel7
      refine (write_any A8 c8 _ LM _ hs8 (Nat.le_refl _) hml2).mono ?_
      rintro e W9 ⟨v9, outc, rfl, hown9, hWc, hb9⟩
      obtain ⟨A9, c9, rfl, hs9, hcap9, hmax9⟩ := own_form' hown9
      have hWc := veil hWc
      have hb59 := hb57.trans (hb9.mono hb57.size)
      have hb9w := hb5w.trans (hb59.mono hb5w.size)
      have hs2c := hs2'.below hb59 (by omega)
      have hs5c := hs5.below hb59 (Nat.le_refl _)
      clear hs2' hb57 hb9 hbel6 hbel7 hown8 hown9 sl5 sm5 hs8
      have hz9 := hb59.size
      by_cases he : writeErr l = 0
      · by_cases hf : writeErr M = 0
        · by_cases hg : writeErr LM = 0
          · rw [he, hf, hg]
            have He := veil he; have Hf := veil hf; have Hg := veil hg
            clear he hf hg
            obtain ⟨hbig, hok⟩ := writeErr_zero' He.out
            have hle := fieldBits_le l hok
            go_wp2_with fail
            have hslw := hl.below hb9w (Nat.le_refl _)
            have hz9w := hb9w.size
            obtain ⟨f1, f2, f3⟩ := front_same hWa.out (by have := hWc.out; rw [← HLM.out] at this; exact this) He.out (by rw [HLM.out]; exact Hg.out)
            have f3 := veil f3
            obtain rfl : outa = outb := hWa.out.alike (by have := hWb.out; rw [← HM.out] at this; exact this) He.out (by rw [HM.out]; exact Hf.out) (withNone_bits l k)
            have hla := out_len hWa.out He.out
            have hlc := out_len hWc.out Hg.out
            generalize hT : (fieldBits l).length = T at f1 f2 f3 hle
            have HT := veil hT; clear hT
            go_loopg [13, 78] l.length (fun gk m i wr => ∃ j : Nat, gk = l.length - j ∧ j ≤ l.length ∧ i = .int .i64 j ∧ m = .int .i64 ((fieldBits (l.take j)).length : Nat) ∧ Below W9.heap.size W9 wr)
            case atStart => exact ⟨0, rfl, Nat.zero_le _, rfl, rfl, Below.refl _ _⟩
            case round =>
              obtain ⟨j, rfl, hj, rfl, rfl, hbr⟩ := hrel
              by_cases hlt : j < l.length
              · obtain ⟨g, o, x, y, rfl, hg, hf, h1, h2⟩ := hslw.pair hlt
                rw [← hbr.cell (by simp; omega)] at h1 h2
                have hx := (hok _ (List.mem_of_getElem? hf)).1
                have hle2 := fieldBits_le (l.take j) (fun f hf => hok f (List.mem_of_mem_take hf))
                simp at hle2
                have Hf2 := veil hf; clear hf
                obtain ⟨X, hX, rfl⟩ : ∃ X : Nat, X ≤ 24 ∧ x = X := ⟨x.toNat, by simp at hx; omega, by simp at hx; omega⟩
                clear hx
                go_wp2
                go_roundg (l.length - (j + 1))
                case rel => exact ⟨j + 1, rfl, by omega, by go_num, by rw [take_snoc Hf2.out, fieldBits_snoc, List.length_append, bitsN_length]; go_num, hbr.alloc hbr.size _⟩
                case measure => omega
              · obtain rfl : j = l.length := by omega
                rw [List.take_length, HT.out]
                have g1 : (0 : Int) ≤ (T : Int) / 8 := by omega
                have g2 : (T : Int) / 8 ≤ (c2 : Int) := by omega
                have g3 : (T : Int) / 8 ≤ (c9 : Int) := by omega
                have g4 : decide ((T : Int) / 8 ≤ (outc.length : Int)) = true := by simp; omega
                have q1 := (hs2c.below hbr (by omega)).up (B' := W9.heap.size) (by omega)
                have q2 := (hs5c.below hbr (by omega)).up (B' := W9.heap.size) (by omega)
                have q3 := hs9.below hbr (Nat.le_refl _)
                have hTa : (outa.take (T / 8)).length = T / 8 := by simp; omega
                have hTc : (outc.take (T / 8)).length = T / 8 := by simp; omega
                have HTa := veil hTa; have HTc := veil hTc; clear hTa hTc
                have E1 : ∀ n, Calls Try.prog 14 #[.slice A2 outa.length c2, .slice A5 outa.length c5] (wr.drewN n) fun e w' => e = .returned (.bool true) ∧ w' = wr.drewN n := fun n =>
                  (eqByte A2 A5 c2 c5 W9.heap.size outa outa (wr.drewN n) (q1.of _ _ fun _ _ => rfl) (q2.of _ _ fun _ _ => rfl) hla hla).mono fun e w' h => ⟨by rw [h.1]; simp, h.2.symm⟩
                have E2 : ∀ n, Calls Try.prog 14 #[.slice A2 (T / 8) c2, .slice A9 (T / 8) c9] (wr.drewN n) fun e w' => e = .returned (.bool true) ∧ w' = wr.drewN n := fun n => by
                  have h := eqByte A2 A9 c2 c9 W9.heap.size (outa.take (T / 8)) (outc.take (T / 8)) (wr.drewN n) ((q1.takeInts _).of _ _ fun _ _ => rfl) ((q3.takeInts _).of _ _ fun _ _ => rfl) (by rw [HTa.out]; unfold maxLen at *; omega) (by rw [HTc.out]; unfold maxLen at *; omega)
                  rw [HTa.out, HTc.out] at h
                  exact h.mono fun e w' h => ⟨by rw [h.1, decide_eq_true f3.out], h.2.symm⟩
                have E1 := veil E1; have E2 := veil E2
                go_wp2_with fail
                go_quiet (first | (go_at_call 14; with_reducible exact Calls.quiet_of_same (E1.out _)) | (go_at_call 14; with_reducible exact Calls.quiet_of_same (E2.out _)))
                go_wp2
                go_ret
                exact ⟨rfl, (hb9w.trans (hbr.mono hz9w)).drewN _⟩
          · have hg' : (writeErr LM != 0) = true := by simpa using hg
            rw [he, hf]
            clear he hf hg
            go_wp2
            go_ret
            exact ⟨rfl, hb9w⟩
        · have hf' : (writeErr M != 0) = true := by simpa using hf
          have h20 : l.length = 20000 := withNone_err hk he (by rw [HM.out]; exact hf)
          have h20' : ((l.length : Int) == 20000) = true := by simp [h20]
          rw [he]
          clear he hf h20
          go_wp2
          go_ret
          exact ⟨rfl, hb9w⟩
      · have he' : (writeErr l != 0) = true := by simpa using he
        clear he
        go_wp2
        go_ret
        exact ⟨rfl, hb9w⟩
end Go.Proofs.Ytgongeblinomcaa
