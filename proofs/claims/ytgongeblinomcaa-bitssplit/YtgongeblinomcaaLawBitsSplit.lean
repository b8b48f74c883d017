/- BitsSplit: its walk. -/
import Derived.Test.YtgongeblinomcaaWritten
import Derived.Test.YtgongeblinomcaaRest
import Derived.OpenShut
namespace Go.Proofs.Ytgongeblinomcaa
open Go.RowKit
set_option linter.unusedVariables false
set_option linter.unusedSimpArgs false

theorem two_parts (X Y low : Nat) (h : low ≤ X) : bitsN X Y = bitsN (X - low) (Y / 2 ^ low) ++ bitsN low (Y % 2 ^ low) := by
  conv => lhs; rw [show X = (X - low) + low by omega, bitsN_add]
  rw [bitsN_mod]
/-- The fields with the k-th in two. -/
def inTwo (l : List (Int × Int)) (k X Y low : Nat) : List (Int × Int) := l.take k ++ [(((X - low : Nat) : Int), ((Y / 2 ^ low : Nat) : Int)), ((low : Int), ((Y % 2 ^ low : Nat) : Int))] ++ l.drop (k + 1)
theorem inTwo_bits {l : List (Int × Int)} {k X Y low : Nat} (hf : l[k]? = some ((X : Int), (Y : Int))) (h : low ≤ X) : fieldBits l = fieldBits (inTwo l k X Y low) := by
  have e : l = l.take k ++ [((X : Int), (Y : Int))] ++ l.drop (k + 1) := by
    rw [← take_snoc hf, List.take_append_drop]
  conv => lhs; rw [e]
  simp only [inTwo, fieldBits_append, List.append_assoc]
  congr 1
  simp only [fieldBits, List.flatMap_cons, List.flatMap_nil, List.flatMap_append, List.append_nil, Int.toNat_natCast, two_parts X Y low h, List.append_assoc]
theorem inTwo_ok {l : List (Int × Int)} {k X Y low : Nat} (hl : writeErr l = 0) (hlen : l.length ≤ 19999) (hf : l[k]? = some ((X : Int), (Y : Int))) (h : low ≤ X) : writeErr (inTwo l k X Y low) = 0 := by
  obtain ⟨_, hok⟩ := writeErr_zero' hl
  have hk := (List.getElem?_eq_some_iff.1 hf).1
  obtain ⟨hX, hY⟩ := (okF_nat X Y).1 (hok _ (List.mem_of_getElem? hf))
  unfold writeErr
  rw [if_neg (by simp [inTwo]; omega), if_pos]
  intro f hf'
  simp only [inTwo, List.mem_append] at hf'
  rcases hf' with (hf' | hf') | hf'
  · exact hok f (List.mem_of_mem_take hf')
  · simp at hf'
    rcases hf' with rfl | rfl
    · have hh : okF (((X - low : Nat) : Int), ((Y / 2 ^ low : Nat) : Int)) := (okF_nat _ _).2 ⟨by omega, by
        rw [Nat.div_lt_iff_lt_mul (Nat.two_pow_pos low), ← Nat.pow_add, show X - low + low = X by omega]; exact hY⟩
      simpa using hh
    · have hh : okF ((low : Int), ((Y % 2 ^ low : Nat) : Int)) := (okF_nat _ _).2 ⟨by omega, Nat.mod_lt _ (Nat.two_pow_pos low)⟩
      simpa using hh
  · exact hok f (List.mem_of_mem_drop hf')

theorem one4 (a b c d : Int) : ∀ u ∈ [Value.int .i64 a, .int .i64 b, .int .i64 c, .int .i64 d], u.oneCell' = true := by
  intro u hu; simp at hu; rcases hu with rfl | rfl | rfl | rfl <;> rfl
theorem split_cells {k X Y low : Nat} {l : List (Int × Int)} (h : low ≤ X) (hY : Y < 2 ^ X) (hX : X ≤ 24) :
    ([] ++ pairCells (l.take k) ++ [Value.int .i64 (IntKind.i64.wrap ((X : Int) - (low : Int))), .int .i64 ((Y : Int) / 2 ^ low), .int .i64 (low : Int), .int .i64 (bits BinOp.and IntKind.i64 (Y : Int) (IntKind.i64.wrap (IntKind.i64.wrap (2 ^ low) - 1)))]) =
      pairCells (l.take k ++ [(((X - low : Nat) : Int), ((Y / 2 ^ low : Nat) : Int)), ((low : Int), ((Y % 2 ^ low : Nat) : Int))]) := by
  have h1 : 2 ^ X ≤ 2 ^ 24 := two_pow_lt _ _ hX
  have h2 : 2 ^ low ≤ 2 ^ 24 := two_pow_lt _ _ (by omega)
  have h3 := Nat.two_pow_pos low
  have w1 : ∀ n : Nat, n < 9223372036854775808 → IntKind.i64.wrap (n : Int) = n := by intro n hn; rw [IntKind.wrap_i64]; omega
  have e0 : IntKind.i64.wrap ((X : Int) - (low : Int)) = ((X - low : Nat) : Int) := by rw [show (X : Int) - (low : Int) = ((X - low : Nat) : Int) by omega]; exact w1 _ (by omega)
  have e1 : IntKind.i64.wrap ((2 : Int) ^ low) = ((2 ^ low : Nat) : Int) := by rw [show ((2 : Int) ^ low) = ((2 ^ low : Nat) : Int) by simp]; exact w1 _ (by omega)
  have e2 : IntKind.i64.wrap (((2 ^ low : Nat) : Int) - 1) = ((2 ^ low - 1 : Nat) : Int) := by rw [show ((2 ^ low : Nat) : Int) - 1 = ((2 ^ low - 1 : Nat) : Int) by omega]; exact w1 _ (by omega)
  have e3 : (Y : Int) / 2 ^ low = ((Y / 2 ^ low : Nat) : Int) := by simp
  rw [e0, e1, e2, e3, i64_and _ _ (by omega) (by omega), Nat.and_two_pow_sub_one_eq_mod, pairCells_append, List.nil_append]
  rfl
set_option maxHeartbeats 2000000 in
theorem bitsSplit_walk (A : Option Addr) (c : Nat) (l : List (Int × Int)) (k0 at0 : Int) (w : World) (hl : Seen w w.heap.size A (pairCells l)) (hwf : ∀ f ∈ l, (Lit.int .i64 f.1).wf = true ∧ (Lit.int .i64 f.2).wf = true) (hlen : l.length ≤ maxLen) (hcap : l.length ≤ c) (hcm : c ≤ maxLen)
    (hk0 : -9223372036854775808 ≤ k0 ∧ k0 ≤ 9223372036854775807) (hat0 : -9223372036854775808 ≤ at0 ∧ at0 ≤ 9223372036854775807) :
    Calls Try.prog 9 #[.slice A l.length c, .int .i64 k0, .int .i64 at0] w fun e w' => e = .returned (.bool true) ∧ Below w.heap.size w w' := by
  clear hwf
  go_enter Try.func9, Try.ntmps9
  go_wp2_with fail
  refine (written_any _).mono ?_
  rintro e w1 ⟨rfl, hb1⟩
  go_wp2_with fail
  refine (write_any A c _ l _ (hl.below hb1 (Nat.le_refl _)) hb1.size hlen).mono ?_
  rintro e w2 ⟨v, out, rfl, hown, hW, hb2⟩
  obtain ⟨A2, c2, rfl, hs⟩ := own_form hown
  have hb : Below w.heap.size w w2 := hb1.trans (hb2.mono hb1.size)
  by_cases he : writeErr l = 0
  · rw [he]
    have hW := veil hW
    have He := veil he; clear he
    by_cases h0 : l.length = 0
    · have h0' : ((l.length : Int) == 0) = true := by simp [h0]
      go_wp2
      go_ret
      exact ⟨rfl, hb⟩
    · have h0' : ((l.length : Int) == 0) = false := by rw [beq_eq_false_iff_ne]; omega
      by_cases hbig : 19999 < l.length
      · have hbig' : (19999 : Int) < (l.length : Int) := by omega
        go_wp2
        go_ret
        exact ⟨rfl, hb⟩
      · have hbig' : ¬ (19999 : Int) < (l.length : Int) := by omega
        go_wp2_with fail
        refine (rest_any k0 (l.length : Int) _ (by omega) (by omega) hk0).mono ?_
        rintro e w3 ⟨rfl, rfl⟩
        obtain ⟨k, hk, hkk⟩ : ∃ k : Nat, k < l.length ∧ k0 % (l.length : Int) = k := by
          have h1 := Int.emod_nonneg k0 (b := (l.length : Int)) (by omega)
          have h2 := Int.emod_lt_of_pos k0 (b := (l.length : Int)) (by omega)
          exact ⟨(k0 % (l.length : Int)).toNat, by omega, by omega⟩
        rw [hkk]
        clear hkk
        obtain ⟨g, o, x, y, rfl, hg, hf, h1, h2⟩ := hl.pair hk
        obtain ⟨X, Y, hX, HY, rfl, rfl⟩ : ∃ X Y : Nat, X ≤ 24 ∧ Hid (Y < 2 ^ X) ∧ x = X ∧ y = Y := by
          have hx := (writeErr_zero' He.out).2 _ (List.mem_of_getElem? hf)
          obtain ⟨⟨hx0, hx1⟩, hy0, hy1⟩ := hx
          simp at hx0 hx1 hy0
          obtain ⟨X, rfl⟩ := Int.eq_ofNat_of_zero_le hx0
          obtain ⟨Y, rfl⟩ := Int.eq_ofNat_of_zero_le hy0
          exact ⟨X, Y, by omega, ((okF_nat X Y).1 ((writeErr_zero' He.out).2 _ (List.mem_of_getElem? hf))).2, rfl, rfl⟩
        have Hf := veil hf; clear hf
        rw [← hb.cell (by simpa using hg)] at h1 h2
        go_wp2_with fail
        refine (rest_any at0 ((X : Int) + 1) _ (by omega) (by omega) hat0).mono ?_
        rintro e w4 ⟨rfl, rfl⟩
        obtain ⟨low, hlow, hll⟩ : ∃ low : Nat, low ≤ X ∧ at0 % ((X : Int) + 1) = low := by
          have h1 := Int.emod_nonneg at0 (b := (X : Int) + 1) (by omega)
          have h2 := Int.emod_lt_of_pos at0 (b := (X : Int) + 1) (by omega)
          exact ⟨(at0 % ((X : Int) + 1)).toNat, by omega, by omega⟩
        rw [hll]
        clear hll
        go_wp2_with fail
        have c0 : (w2.alloc (Obj.cells #[Value.int IntKind.i64 (X : Int), Value.int IntKind.i64 (Y : Int)] 32)).cell? ⟨w2.heap.size, 0, none⟩ = some (.int .i64 X) := by simp
        have c1 : (w2.alloc (Obj.cells #[Value.int IntKind.i64 (X : Int), Value.int IntKind.i64 (Y : Int)] 32)).cell? ⟨w2.heap.size, 1, none⟩ = some (.int .i64 Y) := by simp
        have sl := ((hl.below hb (Nat.le_refl _)).up hb.size).alloc (Nat.le_refl _) (Obj.cells #[Value.int IntKind.i64 (X : Int), Value.int IntKind.i64 (Y : Int)] 32)
        have so := hs.alloc (Nat.le_refl _) (Obj.cells #[Value.int IntKind.i64 (X : Int), Value.int IntKind.i64 (Y : Int)] 32)
        have hbW := hb.alloc hb.size (Obj.cells #[Value.int IntKind.i64 (X : Int), Value.int IntKind.i64 (Y : Int)] 32)
        have hsz : w2.heap.size < (w2.alloc (Obj.cells #[Value.int IntKind.i64 (X : Int), Value.int IntKind.i64 (Y : Int)] 32)).heap.size := by simp
        generalize w2.alloc (Obj.cells #[Value.int IntKind.i64 (X : Int), Value.int IntKind.i64 (Y : Int)] 32) = W at *
        generalize w2.heap.size = B at *
        have s1 := sl.takePairs k
        have hkl : (pairCells (l.take k)).length = k * 2 := by rw [pairCells_length, List.length_take]; omega
        have Hkl := veil hkl; clear hkl
        have b1 : (0 : Int) ≤ (k : Int) := by omega
        have b2 : (k : Int) ≤ (c : Int) := by omega
        have hBW : B < W.heap.size := hsz
        have hr1 : 0 + k ≤ maxLen := by unfold maxLen; omega
        have hr2 : (0 + k) * 16 ≤ 140737488355328 := by omega
        have hr3 : 0 + k + 2 ≤ maxLen := by unfold maxLen; omega
        have hr4 : (0 + k + 2) * 16 ≤ 140737488355328 := by omega
        go_region_held3 (fun w' => w'.cell? ⟨B, 0, none⟩ = some (.int .i64 (X : Int)) ∧ w'.cell? ⟨B, 1, none⟩ = some (.int .i64 (Y : Int)))
          (first
            | go_keep
            | exact ⟨(hbel'.cell hBW).trans c0, (hbel'.cell hBW).trans c1⟩
            | exact ⟨(hbel'.cell hBW).trans ((World.cell?_alloc_lt _ _ _ hBW).trans c0), (hbel'.cell hBW).trans ((World.cell?_alloc_lt _ _ _ hBW).trans c1)⟩
            | exact ⟨(hbel2.cell hBW).trans ((World.cell?_alloc_lt _ _ _ (Nat.lt_of_lt_of_le hBW hbel'.size)).trans ((hbel'.cell hBW).trans c0)), (hbel2.cell hBW).trans ((World.cell?_alloc_lt _ _ _ (Nat.lt_of_lt_of_le hBW hbel'.size)).trans ((hbel'.cell hBW).trans c1))⟩
            | exact ⟨(hbel2.cell hBW).trans ((hbel'.cell hBW).trans ((World.cell?_alloc_lt _ _ _ hBW).trans c0)), (hbel2.cell hBW).trans ((hbel'.cell hBW).trans ((World.cell?_alloc_lt _ _ _ hBW).trans c1))⟩)
          (first
            | (refine step_appV _ ?a1x (.const (.slice none 0 0)) (.tmp 48) _ ?a2x W.heap.size 32 2 16 elem_field (.slice none 0 0) 0 [] ?a3x (World.ownsRow_nil _ _ _ _) B (some ⟨g, o, none⟩) k c (pairCells (l.take k)) ?a4x s1 Hkl.out pairCells_one hr1 hr2 (Nat.le_refl _) ?_
               case a2x => rfl
               case a1x => rfl
               case a3x => rfl
               case a4x => rfl
               intro v' w' hown' hgr' hbel')
            | (refine step_appV _ ?a1y (.const (.slice none 0 0)) (.tmp 48) _ ?a2y W.heap.size 32 2 16 elem_field (.slice none 0 0) 0 [] ?a3y (World.ownsRow_nil _ _ _ _) B (some ⟨g, o, none⟩) k c (pairCells (l.take k)) ?a4y (s1.alloc (Nat.le_of_lt hBW) _) Hkl.out pairCells_one hr1 hr2 (Nat.le_of_lt (size_new W.drew _)) ?_
               case a2y => rfl
               case a1y => rfl
               case a3y => rfl
               case a4y => rfl
               intro v' w' hown' hgr' hbel')
            | (refine step_appV _ ?b1x (.tmp 49) (.tmp 67) _ ?b2x W.heap.size 32 2 16 elem_field v' (0 + k) ([] ++ pairCells (l.take k)) ?b3x (hown'.alloc _) (W.heap.size + 1 + w'.heap.size) (some ⟨w'.heap.size, 0, none⟩) 2 2 _ ?b4x (Seen.new w' _ _ _ (Nat.lt_add_of_pos_left (Nat.succ_pos _))) ?b5x ?b6x hr3 hr4 (size_alloc hbel') ?_
               case b2x => rfl
               case b1x => rfl
               case b3x => rfl
               case b4x => rfl
               case b5x => rfl
               case b6x => exact one4 _ _ _ _
               intro v2 w5 hown2 hgr2 hbel2)
            | (refine step_appV _ ?b1y (.tmp 49) (.tmp 67) _ ?b2y W.heap.size 32 2 16 elem_field v' (0 + k) ([] ++ pairCells (l.take k)) ?b3y hown' (W.heap.size + 1 + w'.heap.size) (some ⟨W.heap.size, 0, none⟩) 2 2 _ ?b4y (seen_after hgr') ?b5y ?b6y hr3 hr4 (size_after hbel') ?_
               case b2y => rfl
               case b1y => rfl
               case b3y => rfl
               case b4y => rfl
               case b5y => rfl
               case b6y => exact one4 _ _ _ _
               intro v2 w5 hown2 hgr2 hbel2)
            | fail)
        all_goals
          have hbW5 : Below W.heap.size W w5 := by first | exact below_of_drew ((hbel'.alloc hbel'.size _).trans hbel2) | exact below_of_drew ((((Below.refl _ W.drew).alloc (Nat.le_refl _) _).trans hbel').trans hbel2)
          rw [split_cells hlow HY.out hX] at hown2
          have hbw5 := hbW.trans (hbW5.mono hbW.size)
          clear hgr' hgr2 hbel' hbel2
          have sl5 := (sl.below hbW5 (Nat.le_of_lt hBW))
          have so5 := (so.below hbW5 (Nat.le_of_lt hBW))
          have hd : (pairCells (l.drop (k + 1))).length = (l.length - (k + 1)) * 2 := by rw [pairCells_length, List.length_drop]; omega
          have Hd := veil hd; clear hd
          have hb3 : (0 : Int) ≤ (k : Int) + 1 := by omega
          have hb4 : (k : Int) + 1 ≤ (l.length : Int) := by omega
          have hb5 : (l.length : Int) ≤ (c : Int) := by omega
          have hB5 := hbW5.size
          clear hown' hown h1 h2 c0 c1 Hkl hl s1 hr1 hr2 hr3 hr4 hb1 hb2 b1 b2 hsz hs so sl
          obtain ⟨sd1, sd2⟩ : (c = k + 1 → Seen w5 B (some ⟨g, o, none⟩) (pairCells (l.drop (k + 1)))) ∧ Seen w5 B (some ⟨g, o + (k + 1) * 2, none⟩) (pairCells (l.drop (k + 1))) :=
            ⟨fun hc => by rw [List.drop_eq_nil_of_le (by omega)]; exact .inl rfl, sl5.dropPairs (k + 1) (by omega)⟩
          have sd1 := veil sd1
          have hn : 0 + k + 2 + (l.length - (k + 1)) = (inTwo l k X Y low).length := by simp [inTwo]; omega
          have hnl : (inTwo l k X Y low).length ≤ 20000 := by omega
          have Hn := veil hn; clear hn
          have hm0 := veil (inTwo_ok He.out (by omega) Hf.out hlow)
          have hmb := veil (inTwo_bits Hf.out hlow)
          by_cases hck : c = k + 1
          · have sd := sd1.out hck
            go_wp2_with (at_builtin; go_loud (refine wpList_appV _ rfl (.tmp 70) (.tmp 74) _ rfl W.heap.size 32 2 16 elem_field _ _ _ rfl hown2 B _ (l.length - (k + 1)) _ (pairCells (l.drop (k + 1))) rfl sd Hd.out pairCells_one (by unfold maxLen; omega) (by omega) hB5 ?_); intro v3 w6 hown3 hbel3)
            rw [← pairCells_append, Hn.out] at hown3
            have hown4 : w6.ownsRow W.heap.size 32 2 v3 (inTwo l k X Y low).length (pairCells (inTwo l k X Y low)) := hown3
            clear hown3
            generalize inTwo l k X Y low = M at *
            obtain ⟨A6, c6, rfl, s6⟩ := own_form hown4
            refine (write_any A6 c6 _ M _ s6 (Nat.le_refl _) (by unfold maxLen; omega)).mono ?_
            rintro e w7 ⟨v7, out7, rfl, hown7, hW7, hb7⟩
            obtain rfl := hW.out.alike hW7 He.out hm0.out hmb.out
            obtain ⟨A8, c8, rfl, s8⟩ := own_form hown7
            have hb67 : Below W.heap.size w5 w7 := hbel3.trans (hb7.mono (by have := hbel3.size; omega))
            have hmz := hm0.out
            rw [hmz]
            clear hmz
            go_wp2_with (go_at_call 14; refine (eqByte A2 A8 c2 c8 w7.heap.size out out _ ((so5.below hb67 (Nat.le_of_lt hBW)).up (by have := hb67.size; omega)) s8 (by have := hW.out; exact out_len this He.out) (by have := hW.out; exact out_len this He.out)).mono ?_; rintro e w9 ⟨rfl, rfl⟩)
            go_ret
            exact ⟨ret_bool (by simp), hbw5.trans (hb67.mono (by have := hbW.size; omega))⟩
          · have sd := sd2
            go_wp2_with (at_builtin; go_loud (refine wpList_appV _ rfl (.tmp 70) (.tmp 74) _ rfl W.heap.size 32 2 16 elem_field _ _ _ rfl hown2 B _ (l.length - (k + 1)) _ (pairCells (l.drop (k + 1))) rfl sd Hd.out pairCells_one (by unfold maxLen; omega) (by omega) hB5 ?_); intro v3 w6 hown3 hbel3)
            rw [← pairCells_append, Hn.out] at hown3
            have hown4 : w6.ownsRow W.heap.size 32 2 v3 (inTwo l k X Y low).length (pairCells (inTwo l k X Y low)) := hown3
            clear hown3
            generalize inTwo l k X Y low = M at *
            obtain ⟨A6, c6, rfl, s6⟩ := own_form hown4
            refine (write_any A6 c6 _ M _ s6 (Nat.le_refl _) (by unfold maxLen; omega)).mono ?_
            rintro e w7 ⟨v7, out7, rfl, hown7, hW7, hb7⟩
            obtain rfl := hW.out.alike hW7 He.out hm0.out hmb.out
            obtain ⟨A8, c8, rfl, s8⟩ := own_form hown7
            have hb67 : Below W.heap.size w5 w7 := hbel3.trans (hb7.mono (by have := hbel3.size; omega))
            have hmz := hm0.out
            rw [hmz]
            clear hmz
            go_wp2_with (go_at_call 14; refine (eqByte A2 A8 c2 c8 w7.heap.size out out _ ((so5.below hb67 (Nat.le_of_lt hBW)).up (by have := hb67.size; omega)) s8 (by have := hW.out; exact out_len this He.out) (by have := hW.out; exact out_len this He.out)).mono ?_; rintro e w9 ⟨rfl, rfl⟩)
            go_ret
            exact ⟨ret_bool (by simp), hbw5.trans (hb67.mono (by have := hbW.size; omega))⟩
  · have he1 : (writeErr l != 0) = true := by simpa using he
    go_wp2
    go_ret
    exact ⟨rfl, hb⟩
end Go.Proofs.Ytgongeblinomcaa
