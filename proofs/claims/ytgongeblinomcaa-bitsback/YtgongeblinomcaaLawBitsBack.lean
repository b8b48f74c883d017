/- BitsBack: its walk. -/
import Derived.Test.YtgongeblinomcaaWritten
import Derived.Test.YtgongeblinomcaaBitsRead
import Derived.Test.YtgongeblinomcaaEqInt
import Derived.Test.YtgongeblinomcaaTwo
namespace Go.Proofs.Ytgongeblinomcaa
open Go.RowKit
set_option linter.unusedVariables false
set_option linter.unusedSimpArgs false

theorem sum_widths (l : List (Int × Int)) (hok : ∀ f ∈ l, okF f) : sumW (l.map (·.1)) = (fieldBits l).length := by
  induction l with
  | nil => rfl
  | cons f l ih =>
    have h1 := (hok f (by simp)).1
    have h2 := ih fun g hg => hok g (by simp [hg])
    rw [fieldBits_cons, List.length_append, bitsN_length, List.map_cons]
    have e : sumW (f.1 :: l.map (·.1)) = f.1 + sumW (l.map (·.1)) := rfl
    rw [e, h2]; omega
theorem readB_back (l : List (Int × Int)) (hok : ∀ f ∈ l, okF f) (pad : List Bool) : readB (fieldBits l ++ pad) (l.map (·.1)) = l.map (·.2) := by
  induction l with
  | nil => rfl
  | cons f l ih =>
    obtain ⟨x, y⟩ := f
    obtain ⟨⟨h1, h2⟩, h3, h4⟩ := hok (x, y) (by simp)
    simp only at h1 h2 h3 h4
    have h5 : y.toNat < 2 ^ x.toNat := by
      have : ((y.toNat : Nat) : Int) < ((2 ^ x.toNat : Nat) : Int) := by simp; omega
      omega
    rw [fieldBits_cons, List.map_cons, List.map_cons, readB, List.append_assoc]
    have e1 : (bitsN x.toNat y.toNat ++ (fieldBits l ++ pad)).take x.toNat = bitsN x.toNat y.toNat := by
      rw [List.take_append_of_le_length (by rw [bitsN_length]; omega), List.take_of_length_le (by rw [bitsN_length]; omega)]
    have e2 : (bitsN x.toNat y.toNat ++ (fieldBits l ++ pad)).drop x.toNat = fieldBits l ++ pad := by
      have := List.drop_left (l₁ := bitsN x.toNat y.toNat) (l₂ := fieldBits l ++ pad)
      rwa [bitsN_length] at this
    simp only at e1 e2 ⊢
    rw [e1, e2, ih fun g hg => hok g (by simp [hg]), valB_bitsN _ _ h5]
    congr 1; omega
theorem readE_zero (n : Int) : ∀ (ws : List Int) (at_ : Int), (∀ x ∈ ws, 0 ≤ x ∧ x ≤ 24) → at_ + sumW ws ≤ n → readE n at_ ws = 0
  | [], _, _, _ => rfl
  | x :: ws, at_, h, hs => by
    have hx := h x (by simp)
    have h2 := sumW_nonneg ws fun y hy => (h y (by simp [hy])).1
    have e : sumW (x :: ws) = x + sumW ws := rfl
    rw [readE, if_pos (by simp [okW]; omega), if_neg (by omega)]
    exact readE_zero n ws _ (fun y hy => h y (by simp [hy])) (by omega)
/-- What was written is read. -/
theorem back_math {l : List (Int × Int)} {out : List Int} (h : Written l out) (h0 : writeErr l = 0) :
    readErr out (l.map (·.1)) = 0 ∧ readOut out (l.map (·.1)) = l.map (·.2) ∧ readSum out (l.map (·.1)) = (fieldBits l).length ∧ 8 * out.length < (fieldBits l).length + 8 ∧ (fieldBits l).length ≤ 8 * out.length := by
  obtain ⟨hl, hok⟩ := writeErr_zero' h0
  obtain ⟨_, p, hp, heq⟩ := h.2 h0
  have h1 := congrArg List.length heq
  simp [unpack_length] at h1
  have hs := sum_widths l hok
  have he : readErr out (l.map (·.1)) = 0 := by
    unfold readErr
    rw [if_neg (by simp; omega)]
    refine readE_zero _ _ _ ?_ (by rw [hs]; omega)
    intro x hx
    obtain ⟨f, hf, rfl⟩ := List.mem_map.1 hx
    exact (hok f hf).1
  refine ⟨he, ?_, ?_, by omega, by omega⟩
  · rw [readOut_ok he, heq, readB_back l hok]
  · rw [readSum_ok he, hs]
theorem elem_int : ElemOf Try.prog 25 3 1 8 := .mk' (z := .int .i64 0) Try.underlying25 (by kernel_rfl) rfl (by omega)
theorem by0 (W : World) : W.drew.heap.size < W.heap.size + 2 := by show W.heap.size < _; omega
theorem alloc_size (W : World) {o : Obj} : (W.drew.alloc o).heap.size = W.heap.size + 1 := by simp
theorem lt_two (W : World) (o p : Obj) : W.heap.size < ((W.drew.alloc o).alloc p).heap.size := by simp; omega
theorem lt_two1 (W : World) (o p : Obj) : W.heap.size + 1 < ((W.drew.alloc o).alloc p).heap.size := by simp
theorem seen_new1 (W : World) (o : Obj) (xs : List Value) {t : TypeId} : Seen ((W.drew.alloc o).alloc (.cells xs.toArray t)) (W.heap.size + 2) (some ⟨W.heap.size + 1, 0, none⟩) xs := by
  have h := Seen.new (W.drew.alloc o) xs t (W.heap.size + 2) (by simp)
  rw [alloc_size] at h
  exact h

set_option maxHeartbeats 4000000 in
theorem bitsBack_walk (A : Option Addr) (c : Nat) (l : List (Int × Int)) (w : World) (hl : Seen w w.heap.size A (pairCells l)) (hwf : ∀ f ∈ l, (Lit.int .i64 f.1).wf = true ∧ (Lit.int .i64 f.2).wf = true) (hlen : l.length ≤ maxLen) :
    Calls Try.prog 6 #[.slice A l.length c] w fun e w' => e = .returned (.bool true) ∧ Below w.heap.size w w' := by
  go_enter Try.func6, Try.ntmps6
  go_wp2_with fail
  refine (written_any _).mono ?_
  rintro e w1 ⟨rfl, hb1⟩
  go_wp2_with fail
  refine (write_any A c _ l _ (hl.below hb1 (Nat.le_refl _)) hb1.size hlen).mono ?_
  rintro e w2 ⟨v0, out, rfl, hown, hW, hb2⟩
  obtain ⟨A2, c2, rfl, hs⟩ := own_form hown
  have hb : Below w.heap.size w w2 := hb1.trans (hb2.mono hb1.size)
  by_cases he : writeErr l = 0
  · rw [he]
    obtain ⟨hbig, hok⟩ := writeErr_zero' he
    have hW := veil hW; have He := veil he
    clear he hwf hlen hown
    go_wp2_with fail
    go_loopg [5, 6, 7, 27] l.length (fun gk u v m i wr => ∃ k : Nat, gk = l.length - k ∧ k ≤ l.length ∧ i = .int .i64 k ∧ m = .int .i64 ((fieldBits (l.take k)).length : Nat) ∧ Two w2 3 u ((l.take k).map (·.1)) v ((l.take k).map (·.2)) wr)
    case atStart => exact ⟨0, rfl, Nat.zero_le _, rfl, rfl, Two.nil (Below.refl _ _)⟩
    case round =>
      obtain ⟨k, rfl, hk, rfl, rfl, hI⟩ := hrel
      have hz := hI.bel.size
      by_cases hlt : k < l.length
      · obtain ⟨g, o, x, y, rfl, hg, hf, h1, h2⟩ := hl.pair hlt
        rw [← hb.cell (by simpa using hg), ← hI.bel.cell (by have := hb.size; simp; omega)] at h1 h2
        obtain ⟨X, Y, hX, HY, rfl, rfl⟩ : ∃ X Y : Nat, X ≤ 24 ∧ Hid (Y < 2 ^ X) ∧ x = X ∧ y = Y := by
          have hx := hok _ (List.mem_of_getElem? hf)
          obtain ⟨⟨hx0, hx1⟩, hy0, hy1⟩ := hx
          simp at hx0 hx1 hy0
          obtain ⟨X, rfl⟩ := Int.eq_ofNat_of_zero_le hx0
          obtain ⟨Y, rfl⟩ := Int.eq_ofNat_of_zero_le hy0
          exact ⟨X, Y, by omega, ((okF_nat X Y).1 (hok _ (List.mem_of_getElem? hf))).2, rfl, rfl⟩
        have hle := fieldBits_le (l.take k) (fun f hf => hok f (List.mem_of_mem_take hf))
        simp at hle
        have Hf := veil hf; clear hf
        go_wp2_with fail
        have c0 : (wr.alloc (Obj.cells #[Value.int IntKind.i64 (X : Int), Value.int IntKind.i64 (Y : Int)] 32)).cell? ⟨wr.heap.size, 0, none⟩ = some (.int .i64 X) := by simp
        have c1 : (wr.alloc (Obj.cells #[Value.int IntKind.i64 (X : Int), Value.int IntKind.i64 (Y : Int)] 32)).cell? ⟨wr.heap.size, 1, none⟩ = some (.int .i64 Y) := by simp
        have HO := hI.alloc (Obj.cells #[Value.int IntKind.i64 (X : Int), Value.int IntKind.i64 (Y : Int)] 32)
        have hrowl := fun g hg => (hI.l.lt g hg).2
        have hrowr := fun g hg => (hI.r.lt g hg).2
        have hsz : wr.heap.size < (wr.alloc (Obj.cells #[Value.int IntKind.i64 (X : Int), Value.int IntKind.i64 (Y : Int)] 32)).heap.size := by simp
        have hlen : ((l.take k).map (·.1)).length + 1 ≤ 1099511627776 := by simp; omega
        have hlen2 : ((l.take k).map (·.2)).length + 1 ≤ 1099511627776 := by simp; omega
        generalize wr.alloc (Obj.cells #[Value.int IntKind.i64 (X : Int), Value.int IntKind.i64 (Y : Int)] 32) = W at *
        clear hI h1 h2
        generalize wr.heap.size = B at *
        generalize hxs : (l.take k).map (·.1) = xs at *
        generalize hys : (l.take k).map (·.2) = ys at *
        have Hxs := veil hxs; have Hys := veil hys
        clear hxs hys
        have hrow35 : ∀ g, u5.ownBlock = some g → g < W.heap.size := fun g hg => Nat.lt_trans (hrowl g hg) hsz
        have hrow40 : ∀ g, u6.ownBlock = some g → g < W.heap.size := fun g hg => Nat.lt_trans (hrowr g hg) hsz
        have hB35 : some B ≠ u5.ownBlock := fun e => Nat.lt_irrefl _ (hrowl B e.symm)
        have hB40 : some B ≠ u6.ownBlock := fun e => Nat.lt_irrefl _ (hrowr B e.symm)
        go_region_held3 (fun w' => w'.cell? ⟨B, 0, none⟩ = some (.int .i64 (X : Int)) ∧ w'.cell? ⟨B, 1, none⟩ = some (.int .i64 (Y : Int)))
          (first
            | go_keep
            | (go_split_ands
               refine ⟨?_, ?_⟩
               · (first | (refine keep_far hgr35 hB35 ?_; assumption) | (refine keep_far hgr40 hB40 ?_; assumption))
               · (first | (refine keep_far hgr35 hB35 ?_; assumption) | (refine keep_far hgr40 hB40 ?_; assumption))))
          (first
            | (refine step_twoL _ ?a35c1 (.tmp 31) (.tmp 34) _ ?b35c1 w2 3 elem_int u5 xs u6 ys ?c35c1 (HO.drew.alloc _) W.heap.size _ (X : Int) ?d35c1 (Seen.new W.drew _ _ (W.heap.size + 2) (by0 W)) hlen ?_
               case b35c1 => rfl
               case a35c1 => rfl
               case c35c1 => rfl
               case d35c1 => rfl
               intro u35 w35 HO35 hgr35)
            | (refine step_twoL _ ?a35c2 (.tmp 31) (.tmp 34) _ ?b35c2 w2 3 elem_int u5 xs u6 ys ?c35c2 ((HO.drew.alloc _).alloc _) W.heap.size _ (X : Int) ?d35c2 ((Seen.new W.drew _ _ (W.heap.size + 1) (Nat.lt_succ_self _)).alloc (Nat.le_of_eq (alloc_size W).symm) _) hlen ?_
               case b35c2 => rfl
               case a35c2 => rfl
               case c35c2 => rfl
               case d35c2 => rfl
               intro u35 w35 HO35 hgr35)
            | (refine step_twoL _ ?a35c4 (.tmp 31) (.tmp 34) _ ?b35c4 w2 3 elem_int u5 xs u6 ys ?c35c4 ((HO.drew.alloc _).alloc _) (W.heap.size + 1) _ (X : Int) ?d35c4 (seen_new1 W _ _) hlen ?_
               case b35c4 => rfl
               case a35c4 => rfl
               case c35c4 => rfl
               case d35c4 => rfl
               intro u35 w35 HO35 hgr35)
            | (refine step_twoL _ ?a35c6 (.tmp 31) (.tmp 34) _ ?b35c6 w2 3 elem_int u5 xs v40 (ys ++ [(Y : Int)]) ?c35c6 (HO40.alloc _) w40.heap.size _ (X : Int) ?d35c6 (Seen.new w40 _ _ (w40.heap.size + 1) (Nat.lt_succ_self _)) hlen ?_
               case b35c6 => rfl
               case a35c6 => rfl
               case c35c6 => rfl
               case d35c6 => rfl
               intro u35 w35 HO35 hgr35)
            | (refine step_twoL _ ?a35c3 (.tmp 31) (.tmp 34) _ ?b35c3 w2 3 elem_int u5 xs v40 (ys ++ [(Y : Int)]) ?c35c3 HO40 W.heap.size _ (X : Int) ?d35c3 (seen_grown ((Seen.new W.drew _ _ (W.heap.size + 1) (Nat.lt_succ_self _)).alloc (Nat.le_of_eq (alloc_size W).symm) _) hgr40 hrow40 (lt_two W _ _)) hlen ?_
               case b35c3 => rfl
               case a35c3 => rfl
               case c35c3 => rfl
               case d35c3 => rfl
               intro u35 w35 HO35 hgr35)
            | (refine step_twoL _ ?a35c5 (.tmp 31) (.tmp 34) _ ?b35c5 w2 3 elem_int u5 xs v40 (ys ++ [(Y : Int)]) ?c35c5 HO40 (W.heap.size + 1) _ (X : Int) ?d35c5 (seen_grown (seen_new1 W _ _) hgr40 (fun g hg => Nat.lt_succ_of_lt (hrow40 g hg)) (lt_two1 W _ _)) hlen ?_
               case b35c5 => rfl
               case a35c5 => rfl
               case c35c5 => rfl
               case d35c5 => rfl
               intro u35 w35 HO35 hgr35)
            | (refine step_twoR _ ?a40c1 (.tmp 36) (.tmp 39) _ ?b40c1 w2 3 elem_int u5 xs u6 ys ?c40c1 (HO.drew.alloc _) W.heap.size _ (Y : Int) ?d40c1 (Seen.new W.drew _ _ (W.heap.size + 2) (by0 W)) hlen2 ?_
               case b40c1 => rfl
               case a40c1 => rfl
               case c40c1 => rfl
               case d40c1 => rfl
               intro v40 w40 HO40 hgr40)
            | (refine step_twoR _ ?a40c2 (.tmp 36) (.tmp 39) _ ?b40c2 w2 3 elem_int u5 xs u6 ys ?c40c2 ((HO.drew.alloc _).alloc _) W.heap.size _ (Y : Int) ?d40c2 ((Seen.new W.drew _ _ (W.heap.size + 1) (Nat.lt_succ_self _)).alloc (Nat.le_of_eq (alloc_size W).symm) _) hlen2 ?_
               case b40c2 => rfl
               case a40c2 => rfl
               case c40c2 => rfl
               case d40c2 => rfl
               intro v40 w40 HO40 hgr40)
            | (refine step_twoR _ ?a40c4 (.tmp 36) (.tmp 39) _ ?b40c4 w2 3 elem_int u5 xs u6 ys ?c40c4 ((HO.drew.alloc _).alloc _) (W.heap.size + 1) _ (Y : Int) ?d40c4 (seen_new1 W _ _) hlen2 ?_
               case b40c4 => rfl
               case a40c4 => rfl
               case c40c4 => rfl
               case d40c4 => rfl
               intro v40 w40 HO40 hgr40)
            | (refine step_twoR _ ?a40c6 (.tmp 36) (.tmp 39) _ ?b40c6 w2 3 elem_int u35 (xs ++ [(X : Int)]) u6 ys ?c40c6 (HO35.alloc _) w35.heap.size _ (Y : Int) ?d40c6 (Seen.new w35 _ _ (w35.heap.size + 1) (Nat.lt_succ_self _)) hlen2 ?_
               case b40c6 => rfl
               case a40c6 => rfl
               case c40c6 => rfl
               case d40c6 => rfl
               intro v40 w40 HO40 hgr40)
            | (refine step_twoR _ ?a40c3 (.tmp 36) (.tmp 39) _ ?b40c3 w2 3 elem_int u35 (xs ++ [(X : Int)]) u6 ys ?c40c3 HO35 W.heap.size _ (Y : Int) ?d40c3 (seen_grown ((Seen.new W.drew _ _ (W.heap.size + 1) (Nat.lt_succ_self _)).alloc (Nat.le_of_eq (alloc_size W).symm) _) hgr35 hrow35 (lt_two W _ _)) hlen2 ?_
               case b40c3 => rfl
               case a40c3 => rfl
               case c40c3 => rfl
               case d40c3 => rfl
               intro v40 w40 HO40 hgr40)
            | (refine step_twoR _ ?a40c5 (.tmp 36) (.tmp 39) _ ?b40c5 w2 3 elem_int u35 (xs ++ [(X : Int)]) u6 ys ?c40c5 HO35 (W.heap.size + 1) _ (Y : Int) ?d40c5 (seen_grown (seen_new1 W _ _) hgr35 (fun g hg => Nat.lt_succ_of_lt (hrow35 g hg)) (lt_two1 W _ _)) hlen2 ?_
               case b40c5 => rfl
               case a40c5 => rfl
               case c40c5 => rfl
               case d40c5 => rfl
               intro v40 w40 HO40 hgr40)
            | fail)
        all_goals
          have hbits : (fieldBits (l.take (k + 1))).length = (fieldBits (l.take k)).length + X := by rw [take_snoc Hf.out, fieldBits_snoc, List.length_append, bitsN_length]; simp
          have Hbits := veil hbits
          have hfin : Two w2 3 u35 ((l.take (k + 1)).map (·.1)) v40 ((l.take (k + 1)).map (·.2)) w40 := by
            rw [take_snoc Hf.out, List.map_append, List.map_append, Hxs.out, Hys.out]; exact HO40
          clear hbits HO HO35 HO40 hgr35 hgr40 c0 c1
          go_wp2
          go_roundg (l.length - (k + 1))
          case rel => exact ⟨k + 1, rfl, by omega, by go_num, by rw [Hbits.out]; go_num, hfin⟩
          case measure => omega
      · obtain rfl : k = l.length := by omega
        have hI2 := hI
        rw [List.take_length] at hI2 ⊢
        obtain ⟨r1, r2, r3, r4, r5⟩ := back_math hW.out He.out
        have hby := (hW.out.2 He.out).1
        have hle := fieldBits_le l hok
        have hla := out_len hW.out He.out
        have hbl := hI2.bel.size
        generalize hT : (fieldBits l).length = T at *
        have HT := veil hT; clear hT
        obtain ⟨A5, c5, rfl, hs5⟩ := own_form hI2.l
        obtain ⟨A6, c6, rfl, hs6⟩ := own_form hI2.r
        have hbI := hI2.bel
        have hlw : (l.map (·.1)).length ≤ maxLen := by simp; unfold maxLen; omega
        have hlv : (l.map (·.2)).length ≤ maxLen := by simp; unfold maxLen; omega
        have hw64 : ∀ x ∈ l.map (·.1), -9223372036854775808 ≤ x ∧ x ≤ 9223372036854775807 := by
          intro x hx
          obtain ⟨f, hf, rfl⟩ := List.mem_map.1 hx
          have := (hok f hf).1
          omega
        clear hI hI2
        generalize hws : l.map (·.1) = ws at *
        generalize hvs : l.map (·.2) = vs at *
        have Hw64 := veil hw64
        clear hws hvs hw64
        go_wp2_with fail
        refine (read_any A2 A5 c2 c5 _ out ws _ ((hs.below hbI (Nat.le_refl _)).up hbl) hby hs5 (Nat.le_refl _) (by omega) hlw Hw64.out).mono ?_
        rintro e w5 ⟨v5, rfl, hown5, hb5⟩
        obtain ⟨A7, c7, rfl, hs7⟩ := own_form hown5
        rw [r2] at hs7
        rw [r1, r2, r3]
        have hbz : Below w.heap.size w w5 := hb.trans ((hbI.trans (hb5.mono hbl)).mono hb.size)
        have hn1 : ((T : Int) == (T : Int)) = true := by simp
        have hn2 : ((out.length : Int) == ((T : Int) + 7) / 8) = true := by simp; omega
        have hn3 : T ≤ 480000 := by omega
        have hs6' := (hs6.below hb5 (Nat.le_refl _)).up hb5.size
        clear hown5 r1 r2 r3 r4
        go_wp2_with (go_at_call 11; refine (eqInt A7 A6 c7 c6 w5.heap.size vs vs _ hs7 hs6' hlv hlv).mono ?_; rintro e w6 ⟨rfl, rfl⟩)
        go_ret
        exact ⟨rfl, hbz⟩
  · have he1 : (writeErr l != 0) = true := by simpa using he
    obtain rfl := hW.1 he
    go_wp2
    go_ret
    exact ⟨rfl, hb⟩
end Go.Proofs.Ytgongeblinomcaa
