/- Texts shared by the claims of this seat, in one. -/
import Derived.Test.YtbboakdfnjjddaaBd20
import Derived.Test.YtbboakdfnjjddaaBd16
import Derived.Test.YtbboakdfnjjddaaBd1
import Derived.Test.YtbboakdfnjjddaaRows
import Derived.Test.YtbboakdfnjjddaaBd17
import Derived.Test.YtbboakdfnjjddaaBd4
import Derived.Test.YtbboakdfnjjddaaBd5
import Derived.Test.YtbboakdfnjjddaaBd19
import Derived.Laws.Strings3
import Derived.Test.YtbboakdfnjjddaaBd14
import Derived.Deep.Cut
/- Blocks out of bits: the bits of their tokens are what was read. -/
namespace Go.Proofs.Ytbboakdfnjjddaa
set_option linter.unusedVariables false
set_option linter.unusedSimpArgs false
set_option maxRecDepth 100000

theorem symF_mine {ws : List (Int × Nat × Nat)} (hnd : (ws.map (·.1)).Nodup) {t : Int × Nat × Nat} (ht : t ∈ ws) : symF ws t.1 = some (fi t) := by
  induction ws using snoc_ind with
  | h0 => simp at ht
  | h1 ws u ih =>
    rw [List.map_append, List.nodup_append] at hnd
    rw [symF_snoc]
    unfold upd
    by_cases e : t.1 = u.1
    · rw [if_pos e]
      rcases List.mem_append.1 ht with h | h
      · exact absurd e (hnd.2.2 t.1 (List.mem_map_of_mem h) u.1 (by simp))
      · simp at h; rw [h]
    · rw [if_neg e]
      rcases List.mem_append.1 ht with h | h
      · exact ih hnd.1 h
      · simp at h; rw [h] at e; exact absurd rfl e
theorem next_word {ws : List (Int × Nat × Nat)} {b : List Bool} (h : nextE ws b = 0) : ∃ t ∈ ws, nextS ws b = t.1 ∧ nextL ws b = t.2.1 ∧ bitsN t.2.1 t.2.2 <+: b := by
  unfold nextE at h
  split at h
  · rename_i h1
    obtain ⟨⟨s, n⟩, hp⟩ := Option.isSome_iff_exists.1 h1
    obtain ⟨t, ht, e1, e2, h2⟩ := find1_mem hp
    exact ⟨t, ht, by unfold nextS; rw [hp, e1]; rfl, by unfold nextL; rw [hp, e2]; rfl, h2⟩
  · split at h <;> cases h
/-- Words of symbols that are all different. -/
def Own1 (ws : List (Int × Nat × Nat)) : Prop := (ws.map (·.1)).Nodup
theorem step_bits {fw rw_ : List (Int × Nat × Nat)} {first : Bool} (hnd : Own1 (wsOf fw rw_ first)) {b s : List Bool} {t : Int × Int × Int} (h : stepS fw rw_ first b = .inr (t, s)) :
    b = tokBits (wsOf fw rw_ first) t ++ s ∧ (symF (wsOf fw rw_ first) t.1).isSome = true := by
  unfold stepS at h
  by_cases h1 : nextE (wsOf fw rw_ first) b = 0
  · rw [if_neg (by rw [h1]; decide)] at h
    split at h
    · cases h
    · rename_i h2
      split at h
      · cases h
      · rename_i h3
        injection h with h
        injection h with h4 h5
        obtain ⟨u, hu, e1, e2, h6⟩ := next_word h1
        have hs := symF_mine hnd hu
        have hb := List.prefix_iff_eq_take.1 h6
        rw [bitsN_length] at hb
        rw [e1, e2] at h3 h4 h5
        generalize hW : widS first u.1 = W at *
        subst h4 h5
        refine ⟨?_, by rw [hs]; rfl⟩
        unfold tokBits symBits
        simp only [hs, Option.getD_some, fi, Int.toNat_natCast]
        have h7 := bitsN_valB (((b.drop u.2.1).take W.toNat))
        rw [show ((b.drop u.2.1).take W.toNat).length = W.toNat by rw [List.length_take]; omega] at h7
        rw [h7, hb, List.append_assoc, List.take_append_drop, List.take_append_drop]
  · rw [if_pos h1] at h; cases h
theorem rest_bits {fw rw_ : List (Int × Nat × Nat)} (hnd : Own1 rw_) : ∀ (k : Nat) (b : List Bool), (gR (stepS fw rw_) k b).1 = 0 → ∃ s', (gR (stepS fw rw_) k b).2.2.2 = some s' ∧
    b = ((gR (stepS fw rw_) k b).2.2.1.flatMap (tokBits rw_)) ++ s' ∧ ∀ t ∈ (gR (stepS fw rw_) k b).2.2.1, (symF rw_ t.1).isSome = true := by
  intro k
  induction k using Nat.strongRecOn with
  | _ k ih =>
    intro b h
    cases k with
    | zero => rw [gR]; exact ⟨b, rfl, rfl, by simp⟩
    | succ k =>
      rw [gR] at h ⊢
      cases hst : stepS fw rw_ false b with
      | inl e => rw [hst] at h; exact absurd h (stepS_ne hst)
      | inr q =>
        obtain ⟨t, s2⟩ := q
        obtain ⟨g1, g2⟩ := step_bits (first := false) hnd hst
        rw [show wsOf fw rw_ false = rw_ from rfl] at g1 g2
        rw [hst] at h
        simp only [] at h ⊢
        by_cases h1 : okT t = true
        · rw [if_pos h1] at h ⊢
          by_cases h2 : t.1 = 0
          · rw [if_pos h2]
            exact ⟨s2, rfl, by simp only [List.flatMap_cons, List.flatMap_nil, List.append_nil]; exact g1, fun u hu => by rw [List.mem_singleton.1 hu]; exact g2⟩
          · rw [if_neg h2] at h ⊢
            by_cases h3 : k + 1 < farT t
            · rw [if_pos h3] at h; simp at h
            · rw [if_neg h3] at h ⊢
              have hp : 0 < farT t := by unfold farT; omega
              by_cases h4 : (gR (stepS fw rw_) (k + 1 - farT t) s2).1 = 0
              · obtain ⟨s', e1, e2, e3⟩ := ih (k + 1 - farT t) (by omega) s2 h4
                rw [if_pos h4]
                refine ⟨s', e1, ?_, fun u hu => ?_⟩
                · simp only [List.flatMap_cons, List.append_assoc]
                  rw [← e2]; exact g1
                · rcases List.mem_cons.1 hu with rfl | hu
                  · exact g2
                  · exact e3 u hu
              · rw [if_neg h4] at h; exact absurd h h4
        · rw [if_neg h1] at h; simp at h
theorem flag_bits (fw rw_ : List (Int × Nat × Nat)) (t : Int × Int × Int) (l : List (Int × Int × Int)) : segBits fw rw_ (flagT (t :: l)) = tokBits fw t ++ l.flatMap (tokBits rw_) := by
  unfold segBits flagT
  simp [List.flatMap_cons, wsOf, List.flatMap_map]
theorem flag_all {fw rw_ : List (Int × Nat × Nat)} {t : Int × Int × Int} {l : List (Int × Int × Int)} (h1 : (symF fw t.1).isSome = true) (h2 : ∀ u ∈ l, (symF rw_ u.1).isSome = true) : AllW fw rw_ (flagT (t :: l)) := by
  intro x hx
  unfold flagT at hx
  rcases List.mem_cons.1 hx with rfl | hx
  · exact h1
  · obtain ⟨u, hu, rfl⟩ := List.mem_map.1 hx
    exact h2 u hu
theorem blk_bits {fw rw_ : List (Int × Nat × Nat)} (hnd1 : Own1 fw) (hnd2 : Own1 rw_) {before : Int} {b : List Bool} (h : (gB (stepS fw rw_) before b).1 = 0) : ∃ s', (gB (stepS fw rw_) before b).2.2.2 = some s' ∧
    b = segBits fw rw_ (flagT (gB (stepS fw rw_) before b).2.2.1) ++ s' ∧ AllW fw rw_ (flagT (gB (stepS fw rw_) before b).2.2.1) := by
  cases hst : stepS fw rw_ true b with
  | inl e => rw [gB_none hst] at h; exact absurd h (stepS_ne hst)
  | inr q =>
    obtain ⟨t, s2⟩ := q
    obtain ⟨g1, g2⟩ := step_bits (first := true) hnd1 hst
    rw [show wsOf fw rw_ true = fw from rfl] at g1 g2
    by_cases hf : firstT before t
    · rw [gB_go hst hf] at h ⊢
      by_cases h4 : (gR (stepS fw rw_) 63 s2).1 = 0
      · obtain ⟨s', e1, e2, e3⟩ := rest_bits (fw := fw) hnd2 63 s2 h4
        unfold joinG at h ⊢
        rw [if_pos h4] at h ⊢
        unfold finG at h ⊢
        rw [if_pos rfl] at h ⊢
        by_cases h5 : toksZ before ([before + numT t] ++ (gR (stepS fw rw_) 63 s2).2.1) = [t] ++ (gR (stepS fw rw_) 63 s2).2.2.1
        · rw [if_pos h5]
          refine ⟨s', e1, ?_, ?_⟩
          · show b = segBits fw rw_ (flagT ([t] ++ (gR (stepS fw rw_) 63 s2).2.2.1)) ++ s'
            rw [List.singleton_append, flag_bits, List.append_assoc, ← e2]; exact g1
          · show AllW fw rw_ (flagT ([t] ++ (gR (stepS fw rw_) 63 s2).2.2.1))
            rw [List.singleton_append]; exact flag_all g2 e3
        · rw [if_neg h5] at h; simp at h
      · unfold joinG at h
        rw [if_neg h4] at h
        unfold finG at h
        rw [if_neg h4] at h
        exact absurd h h4
    · rw [gB_bad hst hf] at h; simp at h
theorem decS_bits {fw rw_ : List (Int × Nat × Nat)} (hnd1 : Own1 fw) (hnd2 : Own1 rw_) : ∀ (n : Nat) (before : Int) (b : List Bool), (decS fw rw_ n before b).1 = 0 →
    b = segBits fw rw_ (toksB before (decS fw rw_ n before b).2.1) ++ (decS fw rw_ n before b).2.2 ∧ AllW fw rw_ (toksB before (decS fw rw_ n before b).2.1) ∧ (decS fw rw_ n before b).2.1.length = n ∧ ∀ r ∈ (decS fw rw_ n before b).2.1, r.length = 64 ∧ inB (-2047) 2047 r = true
  | 0, before, b, _ => by
    rw [decS]
    exact ⟨rfl, fun x hx => by simp [toksB] at hx, rfl, by simp⟩
  | n + 1, before, b, h => by
    rw [decS] at h ⊢
    by_cases h1 : (gB (stepS fw rw_) before b).1 = 0
    · rw [if_pos h1] at h ⊢
      obtain ⟨s', e1, e2, e3⟩ := blk_bits hnd1 hnd2 h1
      obtain ⟨g1, g2, _, g4⟩ := gB_in (fun _ _ _ h => stepS_ne h) h1
      simp only [e1, Option.getD_some] at h ⊢
      by_cases h2 : (decS fw rw_ n ((fromL (gB (stepS fw rw_) before b).2.1).headD 0) s').1 = 0
      · rw [if_pos h2]
        obtain ⟨i1, i2, i3, i4⟩ := decS_bits hnd1 hnd2 n _ s' h2
        have et : toksZ before (toL (fromL (gB (stepS fw rw_) before b).2.1)) = (gB (stepS fw rw_) before b).2.2.1 := by rw [to_from g1]; exact g4
        refine ⟨?_, ?_, ?_, fun r hr => ?_⟩
        · simp only [toksB]
          rw [et, segBits_append, List.append_assoc, ← i1]; exact e2
        · simp only [toksB]
          rw [et]; exact e3.append i2
        · simp only [List.length_cons]; rw [i3]
        · rcases List.mem_cons.1 hr with rfl | hr
          · exact ⟨fromL_length _, inB_from g1 g2⟩
          · exact i4 r hr
      · rw [if_neg h2] at h; exact absurd h h2
    · rw [if_neg h1] at h; exact absurd h h1
theorem own1_of {cs syms : List Int} (h : checkErr cs syms = 0) : Own1 (outWords cs syms) := by
  obtain ⟨l, hf, hw, hll⟩ := fine_of h
  unfold Own1
  rw [hw, mkWords_fst hll]; exact hf.nodup
theorem all_true : ∀ {s : List Bool}, s.all id = true → s = List.replicate s.length true
  | [], _ => rfl
  | x :: s, h => by
    simp only [List.all_cons, Bool.and_eq_true, id] at h
    rw [h.1, List.length_cons, List.replicate_succ, ← all_true h.2]
/-- What was decoded is encoded as just these bytes. -/
theorem again_ok {cs syms cs2 syms2 bs : List Int} {n : Int} (hcs : cs.length = 16) (hcs2 : cs2.length = 16) (hby : Bytes bs) (h : eDec cs syms cs2 syms2 bs n = 0) :
    (∀ r ∈ oDec cs syms cs2 syms2 bs n, r.length = 64) ∧ ((oDec cs syms cs2 syms2 bs n).length : Int) = n ∧ n ≤ 400 ∧ eEnc cs syms cs2 syms2 (oDec cs syms cs2 syms2 bs n) = 0 ∧ ∀ out, SegOut cs syms cs2 syms2 (oDec cs syms cs2 syms2 bs n) out → out = bs := by
  have ho : oDec cs syms cs2 syms2 bs n = (segD cs syms cs2 syms2 bs n.toNat).2.1 := if_pos h
  have h1 : checkErr cs syms = 0 := by
    refine Classical.byContradiction fun h1 => ?_
    unfold eDec eTs at h
    simp [h1] at h
  have h2 : checkErr cs2 syms2 = 0 := by
    refine Classical.byContradiction fun h2 => ?_
    unfold eDec eTs at h
    simp [h1, h2] at h
  have hT : eTs cs syms cs2 syms2 = 0 := by unfold eTs; rw [if_pos h1]; exact h2
  unfold eDec at h
  rw [if_neg (by rw [hT]; decide)] at h
  by_cases h3 : n < 0 ∨ 400 < n
  · rw [if_pos h3] at h; cases h
  · rw [if_neg h3] at h
    by_cases h4 : plainErr bs = 0
    · rw [if_neg (by rw [h4]; decide)] at h
      by_cases h5 : (segD cs syms cs2 syms2 bs n.toNat).1 = 0
      · rw [if_neg (by rw [h5]; decide)] at h
        by_cases h6 : fillB (segD cs syms cs2 syms2 bs n.toNat).2.2 = true
        · obtain ⟨b1, b2, b3, b4⟩ := decS_bits (own1_of h1) (own1_of h2) n.toNat 0 (unpack (plainOut bs)) h5
          rw [ho]
          unfold segD at h6 ⊢
          generalize hO : (decS (outWords cs syms) (outWords cs2 syms2) n.toNat 0 (unpack (plainOut bs))).2.1 = O at *
          generalize hS : (decS (outWords cs syms) (outWords cs2 syms2) n.toNat 0 (unpack (plainOut bs))).2.2 = s at *
          have hE : eL O = 0 := eL_ok (by omega) fun r hr => (b4 r hr).2
          have hen : eEnc cs syms cs2 syms2 O = 0 := by rw [eEnc_end h1 h2 hE, if_pos b2]
          refine ⟨fun r hr => (b4 r hr).1, by omega, by omega, hen, fun out hout => ?_⟩
          obtain ⟨raw, rfl, hrb, p, hp, hu⟩ := hout.2 hen
          unfold fillB at h6
          simp only [Bool.and_eq_true, decide_eq_true_eq] at h6
          have hs := all_true h6.2
          cases hpl : plainR bs with
          | none => rw [(plain_none hpl).2] at h4; cases h4
          | some q =>
            rw [(plain_some hpl).1] at b1
            have hqb : Bytes q := by
              exact fun x hx => hby x (plainR_mem bs q hpl x hx)
            have l1 := congrArg List.length b1
            have l2 := congrArg List.length hu
            rw [unpack_length, List.length_append] at l1 l2
            rw [List.length_replicate] at l2
            have hps : p = s.length := by omega
            rw [hps, ← hs, ← b1] at hu
            rw [unpack_inj hrb hqb hu]
            exact stuffB_plainR bs q hpl
        · rw [if_neg h6] at h; cases h
      · rw [if_pos h5] at h; exact absurd h h5
    · rw [if_pos h4] at h; exact absurd h h4
end Go.Proofs.Ytbboakdfnjjddaa

/- The reference's comparison of two lists of bytes tells whether they are equal. -/
namespace Go.Proofs.Ytbboakdfnjjddaa
open Go.RowKit
set_option linter.unusedVariables false
set_option linter.unusedSimpArgs false
set_option maxRecDepth 100000

set_option maxHeartbeats 400000 in
theorem eqByte (A B : Option Addr) (c d G : Nat) (xs ys : List Int) (w : World) (hx : Seen w G A (ints .u8 xs)) (hy : Seen w G B (ints .u8 ys)) (hlx : xs.length ≤ maxLen) (hly : ys.length ≤ maxLen) :
    Calls Try.prog 16 #[.slice A xs.length c, .slice B ys.length d] w fun e w' => e = .returned (.bool (decide (xs = ys))) ∧ w = w' := by
  unfold maxLen at hlx hly
  by_cases hl : xs.length = ys.length
  · have hne : ((xs.length : Int) != (ys.length : Int)) = false := by simp [hl]
    have Hl := veil hl
    clear hl
    go_enter Try.func16, Try.ntmps16
    go_wp2
    go_loop [5, 6, 14] (fun _ _ i => ∃ k : Nat, k ≤ xs.length ∧ i = .int .i64 k ∧ Hid (xs.take k = ys.take k)) (fun _ _ i => xs.length - (intOf i).toNat)
    case atStart => exact ⟨0, Nat.zero_le _, rfl, veil rfl⟩
    case round =>
      obtain ⟨k, hk, rfl, He⟩ := hrel
      by_cases hlt : k < xs.length
      · have hky : (k : Int) < (ys.length : Int) := by have := Hl.out; omega
        obtain ⟨g, o, x, rfl, _, hxk, h1⟩ := hx.int hlt
        obtain ⟨g', o', y, rfl, _, hyk, h2⟩ := hy.int (k := k) (by omega)
        have Hx := veil hxk; have Hy := veil hyk
        clear hxk hyk
        by_cases hxy : x = y
        · obtain rfl := hxy
          have hb : (x != x) = false := by simp
          go_wp2
          go_round
          case rel => exact ⟨k + 1, by omega, by go_num, veil (by rw [take_snoc Hx.out, take_snoc Hy.out, He.out])⟩
          case measure => simp [intOf]; omega
        · have hb : (x != y) = true := by simpa using hxy
          go_wp2
          go_ret
          refine ⟨ret_bool ?_, rfl⟩
          symm
          simp only [decide_eq_false_iff_not]
          intro e
          have h3 := Hx.out
          rw [e, Hy.out] at h3
          exact hxy (by injection h3 with h3; exact h3.symm)
      · go_wp2
        go_ret
        refine ⟨ret_bool ?_, rfl⟩
        symm
        have h3 := He.out
        rw [List.take_of_length_le (by omega), List.take_of_length_le (by have := Hl.out; omega)] at h3
        simpa using h3
  · have hne : ((xs.length : Int) != (ys.length : Int)) = true := by simp; omega
    have hd : decide (xs = ys) = false := by simp; intro e; exact hl (by rw [e])
    have Hd := veil hd
    clear hd hl
    go_enter Try.func16, Try.ntmps16
    go_wp2
    go_ret
    exact ⟨ret_bool Hd.out.symm, rfl⟩
end Go.Proofs.Ytbboakdfnjjddaa

/- The reference's digitsOf. -/
namespace Go.Proofs.Ytbboakdfnjjddaa
open Go.RowKit
set_option linter.unusedVariables false
set_option linter.unusedSimpArgs false
set_option maxRecDepth 100000

set_option maxHeartbeats 1000000 in
theorem digitsOf_any (A : Option Addr) (c G : Nat) (bs : List Int) (w : World) (hb : Seen w G A (ints .u8 bs)) (hby : Bytes bs) (hG : G ≤ w.heap.size) (hl : bs.length ≤ 1048576) :
    Calls Try.prog 45 #[.slice A bs.length c] w fun e w' => e = .returned (.string (txt (unpack bs))) ∧ Below w.heap.size w w' := by
  go_enter Try.func45, Try.ntmps45
  go_wp2_with fail
  go_loopg [8] bs.length (fun gk i wr => ∃ k : Nat, gk = bs.length - k ∧ k ≤ bs.length ∧ i = .int .i64 k ∧ Bld w.heap.size w.heap.size (unpack (bs.take k)) wr ∧ Below w.heap.size w wr)
  case atStart => exact ⟨0, rfl, Nat.zero_le _, rfl, bld_new w, below1 _ _⟩
  case round =>
    obtain ⟨k, rfl, hk, rfl, hI, hbw⟩ := hrel
    have hz := hbw.size
    by_cases hlt : k < bs.length
    · obtain ⟨g, o, x, rfl, hg, hx, h1⟩ := hb.int hlt
      have hxb := hby x (List.mem_of_getElem? hx)
      have Hx := veil hx; clear hx
      rw [← hbw.cell (by simp; omega)] at h1
      obtain ⟨X, rfl⟩ := Int.eq_ofNat_of_zero_le hxb.1
      have hX : X ≤ 255 := by omega
      clear hxb
      go_wp2_with (first
        | (go_at_call 36; refine (binary_any 8 X _ (by omega) (by omega)).mono ?_; rintro e w1 ⟨rfl, rfl⟩)
        | (go_at_call 35; refine (writeString_any w.heap.size w.heap.size (unpack (bs.take k)) (bitsN 8 X) _ hI (by rw [bitsN_length, unpack_length]; simp; omega) hz).mono ?_; rintro e w2 ⟨rfl, hI2, hb2⟩))
      have hfin : Bld w.heap.size w.heap.size (unpack (bs.take (k + 1))) w2 := by rw [take_snoc Hx.out, unpack_snoc]; exact hI2
      clear hI hI2
      go_roundg (bs.length - (k + 1))
      case rel => exact ⟨k + 1, rfl, by omega, by go_num, hfin, hbw.trans hb2⟩
      case measure => omega
    · obtain rfl : k = bs.length := by omega
      rw [List.take_length] at hI
      go_wp2_with fail
      refine (string_any w.heap.size w.heap.size _ _ hI).mono ?_
      rintro e w1 ⟨rfl, hb1⟩
      go_wp2
      go_ret
      exact ⟨rfl, hbw.trans hb1⟩
end Go.Proofs.Ytbboakdfnjjddaa

/- The reference's TableDecode: the same contract as Decode's. -/
namespace Go.Proofs.Ytbboakdfnjjddaa
open Go.RowKit
set_option linter.unusedVariables false
set_option linter.unusedSimpArgs false
set_option maxRecDepth 100000

theorem digB_inj {a b : Bool} (h : digB a = digB b) : a = b := by cases a <;> cases b <;> first | rfl | (exact absurd h (by decide))
theorem dig_inj : ∀ {a b : List Bool}, dig a = dig b → a = b
  | [], [], _ => rfl
  | [], y :: b, h => by simp [dig] at h
  | x :: a, [], h => by simp [dig] at h
  | x :: a, y :: b, h => by
    simp only [dig, List.map_cons, List.cons.injEq] at h
    rw [digB_inj h.1, dig_inj (a := a) (b := b) h.2]
theorem txt_toList (a : List Bool) : (txt a).toList = dig a := by rw [ByteArray.toList_eq]; simp [txt]
theorem txt_beq (a b : List Bool) : ((txt a).toList == (txt b).toList) = decide (a = b) := by
  rw [txt_toList, txt_toList, Bool.eq_iff_iff, beq_iff_eq, decide_eq_true_iff]
  exact ⟨dig_inj, fun h => by rw [h]⟩

set_option maxHeartbeats 1000000 in
theorem hasPrefix0 (b p : List Bool) (w : World) (hb : b.length ≤ 140737488355328) (hp : p.length ≤ 140737488355328) : Calls Try.prog 90 #[.string (txt b), .string (txt p)] w fun e w' => e = .returned (.bool (p.isPrefixOf b)) ∧ w = w' := by
  have hs1 : (txt b).size = b.length := txt_size b
  have hs2 : (txt p).size = p.length := txt_size p
  by_cases hle : p.length ≤ b.length
  · have hr : p.isPrefixOf b = decide (b.take p.length = p) := by
      rw [Bool.eq_iff_iff, List.isPrefixOf_iff_prefix, List.prefix_iff_eq_take, decide_eq_true_iff]
      exact ⟨fun h => h.symm, fun h => h.symm⟩
    have Hr := veil hr
    have hle' : (p.length : Int) ≤ (b.length : Int) := by omega
    have hle2 : decide (p.length ≤ b.length) = true := decide_eq_true hle
    have hcut : ∀ w, (Instr.slice 9 (.string (txt b)) none (some (.int .i64 (p.length : Int))) none).run Try.prog w = .ok (.string (txt (b.take p.length))) w := by
      intro w
      rw [run_slice_string_to_if w 9 (txt b) .i64 _ Try.underlying9, if_pos ⟨by omega, by rw [hs1]; exact hle'⟩, Int.toNat_natCast, txt_extract]
      simp
    clear hr
    go_enter Try.func90, Try.ntmps90
    go_wp2
    go_ret
    refine ⟨ret_bool ?_, rfl⟩
    rw [Hr.out, ← txt_beq]
  · have hr : p.isPrefixOf b = false := by
      cases h : p.isPrefixOf b with
      | false => rfl
      | true => exact absurd (List.isPrefixOf_iff_prefix.1 h).length_le hle
    have Hr := veil hr
    have hle' : ¬ (p.length : Int) ≤ (b.length : Int) := by omega
    clear hr
    go_enter Try.func90, Try.ntmps90
    go_wp2
    go_ret
    exact ⟨ret_bool (by rw [Hr.out]), rfl⟩
theorem hasPrefix_any (b p : List Bool) (w : World) (hb : b.length ≤ 140737488355328) (hp : p.length ≤ 140737488355328) : Calls Try.prog 70 #[.string (txt b), .string (txt p)] w fun e w' => e = .returned (.bool (p.isPrefixOf b)) ∧ w = w' := by
  have hh := veil (hasPrefix0 b p w hb hp)
  go_enter Try.func70, Try.ntmps70
  go_wp2_with fail
  refine hh.out.mono ?_
  rintro e w1 ⟨rfl, rfl⟩
  go_wp2
  go_ret
  exact ⟨rfl, rfl⟩

theorem find1_hit {ws : List (Int × Nat × Nat)} {b : List Bool} {k : Nat} {t : Int × Nat × Nat} (h : ∀ u ∈ ws.take k, begins u b = false) (ht : ws[k]? = some t) (hb : begins t b = true) : find1 ws b = some (t.1, t.2.1) := by
  have e : ws = ws.take k ++ t :: ws.drop (k + 1) := by
    rw [← List.singleton_append, ← List.append_assoc, ← take_snoc ht, List.take_append_drop]
  unfold find1
  rw [e, List.find?_append, List.find?_eq_none.2 (fun u hu => by rw [h u hu]; simp)]
  simp [List.find?_cons, hb]
theorem find1_miss {ws : List (Int × Nat × Nat)} {b : List Bool} (h : ∀ u ∈ ws, begins u b = false) : find1 ws b = none := by
  unfold find1
  rw [List.find?_eq_none.2 (fun u hu => by rw [h u hu]; simp)]
  rfl
/-- What is left behind the word. -/
def nextR (ws : List (Int × Nat × Nat)) (b : List Bool) : List Bool := if (find1 ws b).isSome = true then b.drop (nextL ws b) else []
theorem mkWords_get {syms : List Int} {l : List (Nat × Nat)} {k : Nat} {x : Int} {p : Nat × Nat} (hx : syms[k]? = some x) (hp : l[k]? = some p) : (mkWords syms l)[k]? = some (x, p.1, p.2) := by
  unfold mkWords; rw [List.getElem?_zipWith, hx, hp]

set_option maxRecDepth 100000 in
set_option maxHeartbeats 2000000 in
theorem symOf_any (cs syms : List Int) (l : List (Nat × Nat)) (A : Option Addr) (c G : Nat) (b : List Bool) (w : World) (hcs : cs.length = 16) (hf : Fine cs syms l) (hs : Seen w G A (ints .i64 syms)) (hG : G ≤ w.heap.size) (hbl : b.length ≤ 140737488355328) :
    Calls Try.prog 48 #[tabV cs A syms.length c, .string (txt b)] w fun e w' => e = .returned (.tuple #[.int .i64 (nextS (mkWords syms l) b), .string (txt (nextR (mkWords syms l) b)), .int .i64 (nextE (mkWords syms l) b)]) ∧ Below w.heap.size w w' := by
  have h16 : (tabCells cs A syms.length c)[16]? = some (.slice A syms.length c) := tabCells_last hcs
  have hlen17 : (tabCells cs A syms.length c).length = 17 := tabCells_length hcs
  have h256 := hf.good.le
  have hll : l.length = syms.length := (codes_length hf.code).trans hf.good.sum
  have hwo := fun w1 => refWordsOf_any (nats cs) A syms.length c w1 (by rw [nats_length]; exact hcs) (by rw [hf.good.sum]; exact hf.good.le)
  rw [natI_nats hf.good.1, hf.code] at hwo
  have hsm : ∀ p ∈ l, p.1 ≤ 16 := fun p hp => ((hf.kr hcs).ge p hp).2.1
  have Hll := veil hll; have Hsm := veil hsm
  clear hf hll hcs hsm
  obtain ⟨ys, hys⟩ : ∃ ys, ys = tabCells cs A syms.length c := ⟨_, rfl⟩
  have Hr := veil (range_new w ys 34)
  unfold tabV at hwo ⊢
  rw [← hys] at hlen17 hwo h16 ⊢
  clear hys
  have Hwo := veil hwo; clear hwo
  have H17 := veil hlen17; clear hlen17
  go_enter Try.func48, Try.ntmps48
  go_wp2_with (first
    | (refine wpList_load_mid rfl 34 (.tmp 2) rfl w.heap.size 0 rfl ys _ Hr.out Try.underlying34 rfl (by rw [H17.out]; exact info_tab) ?_)
    | fail)
  refine (Hwo.out _).mono ?_
  rintro e w1 ⟨v, rfl, HS, hb1⟩
  have c16 : w1.cell? ⟨w.heap.size, 16, none⟩ = some (.slice A syms.length c) := by rw [hb1.cell (by simp), World.cell?_alloc_at _ _ _ _ rfl]; simpa using h16
  have hbel1 : Below w.heap.size w w1 := (below1 _ _).trans (hb1.mono (by simp))
  have hz1 := hb1.size
  simp at hz1
  obtain ⟨A5, c5, e5, hs5, _, _⟩ := HS.seen (List.mem_cons_self ..)
  simp only [strRow, Option.getD_some, Hll.out] at e5 hs5
  subst e5
  clear Hr hb1 Hwo h16 HS
  go_wp2_with fail
  go_loopg [9, 10, 18] syms.length (fun gk i0 s0 i wr => ∃ k : Nat, gk = syms.length - k ∧ k ≤ syms.length ∧ i = .int .i64 k ∧ Hid (∀ u ∈ (mkWords syms l).take k, begins u b = false) ∧ w1 = wr)
  case atStart => exact ⟨0, rfl, Nat.zero_le _, rfl, veil (by simp), rfl⟩
  case round =>
    obtain ⟨k, rfl, hk, rfl, HN, rfl⟩ := hrel
    by_cases hlt : k < syms.length
    · obtain ⟨p, hp⟩ := some_at (xs := l) (j := k) (by rw [Hll.out]; exact hlt)
      obtain ⟨g5, o5, rfl, hg5, h5⟩ := hs5.cell (strs_at hp)
      obtain ⟨g, o, y, rfl, hg, hy, h1⟩ := hs.int hlt
      rw [← hbel1.cell (by simp; omega)] at h1
      have hp16 := Hsm.out p (List.mem_of_getElem? hp)
      have hget := mkWords_get hy hp
      have hhp := hasPrefix_any b (bitsN p.1 p.2) w1 hbl (by rw [bitsN_length]; omega)
      have hsz : (txt (bitsN p.1 p.2)).size = p.1 := by rw [txt_size, bitsN_length]
      have hszb : (txt b).size = b.length := txt_size b
      have hlt' : (k : Int) < (syms.length : Int) := by omega
      have Hget := veil hget
      clear hget hp hy
      cases hbg : (bitsN p.1 p.2).isPrefixOf b with
      | true =>
        rw [hbg] at hhp
        have hbl2 : p.1 ≤ b.length := by have := (List.isPrefixOf_iff_prefix.1 hbg).length_le; rw [bitsN_length] at this; exact this
        have hf1 := find1_hit HN.out Hget.out (show begins (y, p.1, p.2) b = true from hbg)
        have h11 : nextS (mkWords syms l) b = y := by unfold nextS; rw [hf1]; rfl
        have h12 : nextR (mkWords syms l) b = b.drop p.1 := by unfold nextR nextL; rw [hf1]; rfl
        have h13 : nextE (mkWords syms l) b = 0 := by unfold nextE; rw [hf1]; rfl
        have H1 := veil h11; have H2 := veil h12; have H3 := veil h13; have Hhp := veil hhp
        have hcut : ∀ w, (Instr.slice 9 (.string (txt b)) (some (.int .i64 (p.1 : Int))) none none).run Try.prog w = .ok (.string (txt (b.drop p.1))) w := by
          intro w
          rw [run_slice_string_from_if w 9 (txt b) .i64 _ Try.underlying9, if_pos ⟨by omega, by rw [hszb]; omega⟩, Int.toNat_natCast, hszb, txt_extract]
          rw [List.take_of_length_le (by simp)]
        clear h11 h12 h13 hf1 hbg hhp
        generalize txt (bitsN p.1 p.2) = tx at *
        obtain ⟨tr, htr⟩ : ∃ tr, tr = txt (b.drop p.1) := ⟨_, rfl⟩
        rw [← htr] at hcut
        have Htr := veil htr; clear htr
        go_wp2_with fail
        refine Hhp.out.mono ?_
        rintro e w3 ⟨rfl, rfl⟩
        go_wp2_with fail
        go_quiet (fail)
        go_wp2
        go_ret3
        exact ⟨ret_three (by rw [H1.out]; rfl) (by rw [H2.out, ← Htr.out]; rfl) (by rw [H3.out]; rfl), hbel1.drewN _⟩
      | false =>
        rw [hbg] at hhp
        have Hhp := veil hhp; have Hbg := veil hbg
        clear hhp hbg
        generalize txt (bitsN p.1 p.2) = tx at *
        go_wp2_with fail
        refine Hhp.out.mono ?_
        rintro e w3 ⟨rfl, rfl⟩
        go_wp2
        go_roundg (syms.length - (k + 1))
        case rel => exact ⟨k + 1, rfl, by omega, by go_num, veil (mem_snoc Hget.out HN.out Hbg.out), rfl⟩
        case measure => omega
    · obtain rfl : k = syms.length := by omega
      have hall : ∀ u ∈ mkWords syms l, begins u b = false := by
        have := HN.out
        rw [List.take_of_length_le (by rw [mkWords_length _ _ (by rw [Hll.out]; omega), Hll.out]; omega)] at this
        exact this
      have hf1 := find1_miss hall
      have h11 : nextS (mkWords syms l) b = 0 := by unfold nextS; rw [hf1]; rfl
      have h12 : nextR (mkWords syms l) b = [] := by unfold nextR; rw [hf1]; rfl
      have h13 : nextE (mkWords syms l) b = if b.length < 16 then 3 else 4 := by unfold nextE; rw [hf1]; rfl
      have H1 := veil h11; have H2 := veil h12
      have hszb : (txt b).size = b.length := txt_size b
      clear h11 h12 hf1 hall
      by_cases h16 : b.length < 16
      · rw [if_pos h16] at h13
        have H3 := veil h13
        clear h13
        have h16' : (b.length : Int) < 16 := by omega
        go_wp2
        go_ret3
        exact ⟨ret_three (by rw [H1.out]; rfl) (by rw [H2.out]; rfl) (by rw [H3.out]; rfl), hbel1⟩
      · rw [if_neg h16] at h13
        have H3 := veil h13
        clear h13
        have h16' : ¬ (b.length : Int) < 16 := by omega
        go_wp2
        go_ret3
        exact ⟨ret_three (by rw [H1.out]; rfl) (by rw [H2.out]; rfl) (by rw [H3.out]; rfl), hbel1⟩

theorem nextR_hit {ws : List (Int × Nat × Nat)} {b : List Bool} (h : nextE ws b = 0) : nextR ws b = b.drop (nextL ws b) := by
  unfold nextE at h
  split at h
  · rename_i h1; unfold nextR; rw [if_pos h1]
  · split at h <;> cases h

end Go.Proofs.Ytbboakdfnjjddaa

/- The reference's reader of a token out of digits (SegDecode's closure): its contract. -/
namespace Go.Proofs.Ytbboakdfnjjddaa
open Go.RowKit
set_option linter.unusedVariables false
set_option linter.unusedSimpArgs false
set_option maxRecDepth 100000

def tok000 : List Value := [.int .i64 0, .int .i64 0, .int .i64 0]
theorem tok000_one : ∀ u ∈ tok000, u.oneCell' = true := by intro u hu; simp [tok000] at hu; subst hu; rfl
theorem tokw_one (a b c : Int) : ∀ u ∈ [Value.int .i64 a, .int .i64 b, .int .i64 c], u.oneCell' = true := by intro u hu; simp at hu; rcases hu with rfl | rfl | rfl <;> rfl
theorem wpList_store_newQ {P : Program} {ops : Array Oper} {rest : List Oper} {o : Oper} {a : Act} {Q : Exit → Act → World → Prop} (w0 : World) (n : Nat) (hn : w0.heap.size = n) (hgd : o.guard = none) (t : TypeId) (x y : Operand) (ho : o.op = .store t x y) (c : Array Value) (c' : List Value)
    (hx : a.eval x = .pointer (some ⟨n, 0, none⟩)) (hy : a.eval y = .agg c'.toArray) (hi : (P.info? t).map (·.size) = some c'.length) (hsz : c.size = c'.length) (h1 : ∀ u ∈ c', u.oneCell' = true)
    (h : wpList P ops Q rest (a.put o.dst undef) (w0.alloc (.cells c'.toArray t))) : wpList P ops Q (o :: rest) a (w0.alloc (.cells c t)) := by
  subst hn
  exact wpList_store_new w0 hgd t x y ho c c' hx hy hi hsz h1 h
theorem grown_grown' {w w1 w2 : World} {g : Nat} (h : w.grownBy w1 (some g)) (h2 : w1.grownBy w2 (some g)) : w.grownBy w2 (some g) := h.trans h2
/-- Where the source stands: block T holds the tables, block g the digits left. -/
structure SrcD (cs syms : List Int) (A : Option Addr) (c : Nat) (cs2 syms2 : List Int) (A2 : Option Addr) (c2 G T g N : Nat) (w : World) (s : List Bool) : Prop where
  tabs : Blk w T (tabsCells cs A syms.length c cs2 A2 syms2.length c2) 36
  text : Blk w g [.string (txt s)] 9
  one : Seen w G A (ints .i64 syms)
  two : Seen w G A2 (ints .i64 syms2)
  few : s.length ≤ N
theorem SrcD.below {cs syms : List Int} {A : Option Addr} {c : Nat} {cs2 syms2 : List Int} {A2 : Option Addr} {c2 G T g N B : Nat} {w w' : World} {s : List Bool} (h : SrcD cs syms A c cs2 syms2 A2 c2 G T g N w s) (hb : Below B w w') (hT : T < B) (hg : g < B) (hG : G ≤ B) : SrcD cs syms A c cs2 syms2 A2 c2 G T g N w' s :=
  ⟨h.tabs.below hb hT, h.text.below hb hg, h.one.below hb hG, h.two.below hb hG, h.few⟩
theorem info_str1 : (Try.prog.info? 9).map (·.size) = some 1 := by kernel_rfl
theorem info_tokR : (Try.prog.info? 56).map (·.size) = some 3 := by kernel_rfl
section
variable {fw rw_ : List (Int × Nat × Nat)} {first : Bool} {b : List Bool}
theorem stepR_word (h : nextE (wsOf fw rw_ first) b ≠ 0) : stepS fw rw_ first b = .inl (nextE (wsOf fw rw_ first) b) := if_pos h
theorem stepR_wide (h : nextE (wsOf fw rw_ first) b = 0) (h2 : 12 < widS first (nextS (wsOf fw rw_ first) b) ∨ (first = false ∧ 11 < widS first (nextS (wsOf fw rw_ first) b))) : stepS fw rw_ first b = .inl 4 := by
  unfold stepS; rw [if_neg (by rw [h]; decide), if_pos h2]
theorem stepR_short (h : nextE (wsOf fw rw_ first) b = 0) (h2 : ¬ (12 < widS first (nextS (wsOf fw rw_ first) b) ∨ (first = false ∧ 11 < widS first (nextS (wsOf fw rw_ first) b)))) (h3 : (b.drop (nextL (wsOf fw rw_ first) b)).length < (widS first (nextS (wsOf fw rw_ first) b)).toNat) : stepS fw rw_ first b = .inl 3 := by
  unfold stepS; rw [if_neg (by rw [h]; decide), if_neg h2, if_pos h3]
theorem stepR_ok (h : nextE (wsOf fw rw_ first) b = 0) (h2 : ¬ (12 < widS first (nextS (wsOf fw rw_ first) b) ∨ (first = false ∧ 11 < widS first (nextS (wsOf fw rw_ first) b)))) (h3 : ¬ (b.drop (nextL (wsOf fw rw_ first) b)).length < (widS first (nextS (wsOf fw rw_ first) b)).toNat) : stepS fw rw_ first b = .inr ((nextS (wsOf fw rw_ first) b, widS first (nextS (wsOf fw rw_ first) b), (valB ((b.drop (nextL (wsOf fw rw_ first) b)).take (widS first (nextS (wsOf fw rw_ first) b)).toNat) : Int)), (b.drop (nextL (wsOf fw rw_ first) b)).drop (widS first (nextS (wsOf fw rw_ first) b)).toNat) := by
  unfold stepS; rw [if_neg (by rw [h]; decide), if_neg h2, if_neg h3]
end
/-- The way out with an error. -/
theorem segNext_err {R : World → List Bool → Prop} {w w1 : World} {g : Nat} {a : Act} {er : Int} {st : Int ⊕ ((Int × Int × Int) × List Bool)} (hst : st = .inl er) (h4 : a.tmps.getD 4 undef = .pointer (some ⟨w.heap.size, 0, none⟩)) (h5 : a.tmps.getD 5 undef = .int .i64 er) (hdf : a.defers = [])
    (HB : Blk w1 w.heap.size tok000 56) (hg : w.grownBy w1 (some g)) :
    bodyPost Try.prog Try.f47 (fun e w' => NextPost R g w st e w') .ret a w1 := by
  subst hst
  exact bodyPost_ret (results_row_tmp rfl _ _ w.heap.size 56 tok000.toArray (0, 0) _ (.int .i64 er) h4 h5 HB Try.underlying56 rfl info_tokR) hdf ⟨rfl, hg⟩
/-- The way out with a token. -/
theorem segNext_ok {R : World → List Bool → Prop} {w w1 : World} {g : Nat} {a : Act} {t0 t1 t2 : Int} {s : List Bool} {st : Int ⊕ ((Int × Int × Int) × List Bool)} (hst : st = .inr ((t0, t1, t2), s)) (h4 : a.tmps.getD 4 undef = .pointer (some ⟨w.heap.size, 0, none⟩)) (h5 : a.tmps.getD 5 undef = .int .i64 0) (hdf : a.defers = [])
    {ys : List Value} (hys : ys = [.int .i64 t0, .int .i64 t1, .int .i64 t2]) (HB : Blk w1 w.heap.size ys 56) (hg : w.grownBy w1 (some g)) (hR : R w1 s) :
    bodyPost Try.prog Try.f47 (fun e w' => NextPost R g w st e w') .ret a w1 := by
  subst hst
  exact bodyPost_ret (results_row_tmp rfl _ _ w.heap.size 56 ys.toArray (0, 0) _ (.int .i64 0) h4 h5 HB Try.underlying56 rfl (by rw [hys]; exact info_tokR)) hdf ⟨by rw [hys]; rfl, hg, hR⟩
set_option maxRecDepth 100000 in
set_option maxHeartbeats 1000000 in
theorem segNext_first (cs syms : List Int) (A : Option Addr) (c : Nat) (cs2 syms2 : List Int) (A2 : Option Addr) (c2 G T g N : Nat) (s : List Bool) (w : World)
    (hcs : cs.length = 16) (hcs2 : cs2.length = 16) (h1 : checkErr cs syms = 0) (h2 : checkErr cs2 syms2 = 0) (hN : N ≤ 140737488355328) (hTg : T ≠ g) (hG : G ≤ w.heap.size) (hGT : G ≤ T) (hGg : G ≤ g)
    (hS : SrcD cs syms A c cs2 syms2 A2 c2 G T g N w s) :
    Calls Try.prog 47 #[.bool true, .pointer (some ⟨T, 0, none⟩), .pointer (some ⟨g, 0, none⟩)] w fun e w' => NextPost (SrcD cs syms A c cs2 syms2 A2 c2 G T g N) g w (stepS (outWords cs syms) (outWords cs2 syms2) true s) e w' := by
  obtain ⟨ST, SX, SA, SB, SN⟩ := hS
  have hTz := ST.lt
  have hgz := SX.lt
  obtain ⟨l, hf, how, hll⟩ := fine_of h1
  have HSy := veil (fun W (h : Seen W G A (ints .i64 syms)) (hG : G ≤ W.heap.size) => symOf_any cs syms l A c G s W hcs hf h hG (by omega))
  rw [← how] at HSy
  obtain ⟨ws, hws⟩ : ∃ ws, ws = wsOf (outWords cs syms) (outWords cs2 syms2) true := ⟨_, rfl⟩
  have hws2 : outWords cs syms = ws := hws.symm
  rw [hws2] at HSy
  have hsm : ∀ t ∈ ws, 0 ≤ t.1 ∧ t.1 ≤ 255 := by
    rw [← hws2, how]
    exact fun t ht => (hf.word hcs ht).1
  have hL := nextL_le (ws := ws) (b := s)
  have hSy := nextS_wf (ws := ws) (b := s) hsm
  have E1 := veil (stepR_word (fw := outWords cs syms) (rw_ := outWords cs2 syms2) (first := true) (b := s))
  have E2 := veil (stepR_wide (fw := outWords cs syms) (rw_ := outWords cs2 syms2) (first := true) (b := s))
  have E3 := veil (stepR_short (fw := outWords cs syms) (rw_ := outWords cs2 syms2) (first := true) (b := s))
  have E4 := veil (stepR_ok (fw := outWords cs syms) (rw_ := outWords cs2 syms2) (first := true) (b := s))
  have hnr := nextR_hit (ws := ws) (b := s)
  rw [← hws] at E1 E2 E3 E4
  obtain ⟨st, hst⟩ : ∃ st, st = stepS (outWords cs syms) (outWords cs2 syms2) true s := ⟨_, rfl⟩
  rw [← hst] at E1 E2 E3 E4 ⊢
  have hr0 := ST.range
  have hr1 := range_left hr0
  have hr2 := range_right hr0
  have h17 : (tabCells cs A syms.length c).length = 17 := tabCells_length hcs
  have h17b : (tabCells cs2 A2 syms2.length c2).length = 17 := tabCells_length hcs2
  have o17 := tabCells_one (cs := cs) (A := A) (n := syms.length) (c := c)
  have o17b := tabCells_one (cs := cs2) (A := A2) (n := syms2.length) (c := c2)
  rw [h17] at hr2
  have HR := veil (fun W s2 (a1 : Blk W T (tabsCells cs A syms.length c cs2 A2 syms2.length c2) 36) (a2 : Blk W g [.string (txt s2)] 9) (a3 : Seen W G A (ints .i64 syms)) (a4 : Seen W G A2 (ints .i64 syms2)) (a5 : s2.length ≤ N) => (⟨a1, a2, a3, a4, a5⟩ : SrcD cs syms A c cs2 syms2 A2 c2 G T g N W s2))
  obtain ⟨R, hR⟩ : ∃ R, R = SrcD cs syms A c cs2 syms2 A2 c2 G T g N := ⟨_, rfl⟩
  rw [← hR] at HR ⊢
  have hb1 := below1 w (.cells tok000.toArray 56)
  have hB1 := Blk.new w tok000 56
  have hz1 : (w.alloc (.cells tok000.toArray 56)).heap.size = w.heap.size + 1 := by simp
  have hra := range_below hr1 hb1 hTz
  have hrb := range_below hr2 hb1 hTz
  have hST := ST; have hSX := SX
  have Hnr := veil hnr; have HSbd := veil hSy; have HL := veil hL; have HSn := veil SN
  have H17 := veil h17; have H17b := veil h17b
  have HST := veil ST; have HSX := veil SX; have HSA := veil SA; have HSB := veil SB
  clear hr0 hr1 hr2 ST SX SA SB hws hws2 how hf hll hsm hR hst hcs hcs2 h1 h2 hST hSX hnr hSy hL SN h17 h17b
  unfold tabV at HSy
  generalize tabsCells cs A syms.length c cs2 A2 syms2.length c2 = zs at *
  generalize tabCells cs A syms.length c = xs at *
  generalize tabCells cs2 A2 syms2.length c2 = ys at *
  obtain ⟨W1, hW1⟩ : ∃ W1, W1 = w.alloc (.cells tok000.toArray 56) := ⟨_, rfl⟩
  have HW1 := veil hW1
  rw [← hW1] at hb1 hB1 hz1 hra hrb
  clear hW1
  have hbY := below1 W1 (.cells ys.toArray 34)
  have hBY := Blk.new W1 ys 34
  have hraY := range_below hra hbY (by omega)
  go_enter Try.func47, Try.ntmps47
  go_upto_region 1 with fail
  rw [show w.alloc (.cells #[Value.int IntKind.i64 0, Value.int IntKind.i64 0, Value.int IntKind.i64 0] 56) = W1 from HW1.out.symm]
  go_upto_region 2 with (first
    | (refine wpList_load_mid rfl 34 (.tmp 12) rfl T 17 rfl ys _ (by simpa using hrb) Try.underlying34 rfl (by rw [H17b.out]; exact info_tab) ?_)
    | (refine wpList_store_newQ W1 (w.heap.size + 1) hz1 rfl 34 (.tmp 6) (.tmp 13) rfl _ ys rfl rfl (by rw [H17b.out]; exact info_tab) (by rw [H17b.out]; rfl) o17b ?_)
    | fail)
  obtain ⟨W2, hW2⟩ : ∃ W2, W2 = W1.alloc (.cells ys.toArray 34) := ⟨_, rfl⟩
  rw [← hW2] at hbY hBY hraY ⊢
  have hz2 : W2.heap.size = W1.heap.size + 1 := by rw [hW2]; simp
  clear hW2
  rw [hz1] at hBY
  go_upto_region 4 with (first
    | (refine wpList_load_mid rfl 34 (.tmp 15) rfl T 0 rfl xs _ hraY Try.underlying34 rfl (by rw [H17.out]; exact info_tab) ?_)
    | (refine wpList_store_blk W2 rfl 34 (.tmp 6) (.tmp 16) rfl (w.heap.size + 1) ys xs 34 hBY rfl rfl (by rw [H17.out]; exact info_tab) (by rw [H17.out, H17b.out]) o17 ?_; intro W3 hB3 hg3)
    | fail)
  have hb23 : Below W1.heap.size W2 W3 := (Below.refl _ _).grown hg3 (by omega) (fun j hj => by injection hj with hj; omega)
  have hbw3 : Below w.heap.size w W3 := (hb1.trans (hbY.mono (by omega))).trans (hb23.mono (by omega))
  have hz3 := hb23.size
  have hX3 := HSX.out.below hbw3 hgz
  have hXc := hX3.cell (i := 0) (v := .string (txt s)) rfl
  have hB3r := hB3.range
  have HCall := veil (HSy.out W3 (HSA.out.below hbw3 hG) (by omega))
  have hTok3 := (hB1.below hbY (by omega)).below hb23 (by omega)
  have Htok := veil hTok3
  clear hXc hX3 hTok3
  have hXc := (HSX.out.below hbw3 hgz).cell (i := 0) (v := .string (txt s)) rfl
  clear hra hrb hraY hBY hb23 hbY hb1 hB1
  go_wp2_with (first
    | (refine wpList_load_mid rfl 34 (.tmp 6) rfl (w.heap.size + 1) 0 rfl xs _ hB3r Try.underlying34 rfl (by rw [H17.out]; exact info_tab) ?_)
    | fail)
  refine HCall.out.mono ?_
  rintro e w4 ⟨rfl, hb4⟩
  have hz4 := hb4.size
  have hbw4 := hbw3.trans (hb4.mono (by omega))
  have HT4 := Htok.out.below hb4 (by omega)
  have hgr4 := grown_below (World.grownBy.refl w (some g)) hbw4 (Nat.le_refl _)
  have Hg4 := veil hgr4
  have HT4 := veil HT4
  have HX4 := veil (HSX.out.below hbw4 hgz)
  have hbw4' := veil hbw4
  have hz14 : w.heap.size + 1 ≤ w4.heap.size := by omega
  clear HCall hB3r hB3 Htok HSy hXc hb4 hbw3 hgr4 hbw4 hg3 o17 o17b
  by_cases hE : nextE ws s = 0
  · have hnr := Hnr.out hE
    rw [hE, hnr]
    have e2 := E2.out hE
    have e3 := E3.out hE
    have e4 := E4.out hE
    clear E2 E3 E4
    have E2 := veil e2
    have E3 := veil e3
    have E4 := veil e4
    clear e2 e3 e4
    obtain ⟨hS0, hS1⟩ := HSbd.out
    have hLs := HL.out
    have hSn := HSn.out
    clear E1 hnr Hnr HSbd HL HSn hE
    generalize nextS ws s = sy at *
    generalize nextL ws s = L at *
    obtain ⟨Rr, hRr⟩ : ∃ Rr, Rr = s.drop L := ⟨_, rfl⟩
    rw [← hRr] at E3 E4 ⊢
    have hRl : Rr.length ≤ N := by rw [hRr, List.length_drop]; omega
    clear hRr
    obtain ⟨P, hP⟩ : ∃ P : Nat, sy = (P : Int) := ⟨sy.toNat, by omega⟩
    subst hP
    have e2 : 12 < (P : Int) ∨ true = false ∧ 11 < (P : Int) → st = Sum.inl 4 := E2.out
    have e3 : ¬ (12 < (P : Int) ∨ true = false ∧ 11 < (P : Int)) → Rr.length < P → st = Sum.inl 3 := E3.out
    have e4 : ¬ (12 < (P : Int) ∨ true = false ∧ 11 < (P : Int)) → ¬ Rr.length < P → st = Sum.inr (((P : Int), (P : Int), ((valB (Rr.take P) : Nat) : Int)), Rr.drop P) := E4.out
    clear E2 E3 E4
    have E2 := veil e2
    have E3 := veil e3
    have E4 := veil e4
    clear e2 e3 e4
    have hsz : (txt Rr).size = Rr.length := txt_size Rr
    by_cases hw : 12 < (P : Int)
    · have hst := E2.out (by first | exact .inl hw | exact .inr ⟨trivial, hw⟩)
      have Hst := veil hst
      clear hst E2 E3 E4
      go_wp2_with (first
        | (refine wpList_store_blk w4 rfl 56 (.tmp 4) (.tmp 42) rfl w.heap.size tok000 tok000 56 HT4.out rfl rfl info_tokR rfl tok000_one ?_; intro w5 HB5 hg5)
        | fail)
      all_goals exact segNext_err Hst.out rfl rfl rfl HB5 (grown_grown Hg4.out hg5 (Nat.le_refl _))
    · have hnw : ¬ (12 < (P : Int) ∨ (true = false ∧ 11 < (P : Int))) := fun h => h.elim hw (fun h => by cases h.1)
      have e3 := E3.out hnw
      have e4 := E4.out hnw
      clear E3 E4
      have E3 := veil e3
      have E4 := veil e4
      clear e3 e4
      have hP12 : P ≤ 12 := by omega
      clear hnw E2
      by_cases hsh : Rr.length < P
      · have Hst := veil (E3.out hsh)
        have hshz : (Rr.length : Int) < (P : Int) := by omega
        clear E3 E4
        generalize txt Rr = tx at *
        go_wp2_with (first
          | (refine wpList_store_blk w4 rfl 56 (.tmp 4) (.tmp 47) rfl w.heap.size tok000 tok000 56 HT4.out rfl rfl info_tokR rfl tok000_one ?_; intro w5 HB5 hg5)
          | fail)
        exact segNext_err Hst.out rfl rfl rfl HB5 (grown_grown Hg4.out hg5 (Nat.le_refl _))
      · have Hst := veil (E4.out hsh)
        have hshz : ¬ (Rr.length : Int) < (P : Int) := by omega
        have hcutA : ∀ w, (Instr.slice 9 (.string (txt Rr)) none (some (.int .i64 (P : Int))) none).run Try.prog w = .ok (.string (txt (Rr.take P))) w := by
          intro w
          rw [run_slice_string_to_if w 9 (txt Rr) .i64 _ Try.underlying9, if_pos ⟨by omega, by rw [hsz]; omega⟩, Int.toNat_natCast, txt_extract]
          simp
        have hcutB : ∀ w, (Instr.slice 9 (.string (txt Rr)) (some (.int .i64 (P : Int))) none none).run Try.prog w = .ok (.string (txt (Rr.drop P))) w := by
          intro w
          rw [run_slice_string_from_if w 9 (txt Rr) .i64 _ Try.underlying9, if_pos ⟨by omega, by rw [hsz]; omega⟩, Int.toNat_natCast, hsz, txt_extract]
          rw [List.take_of_length_le (by simp)]
        have hfb := fromBinary_any (Rr.take P) w4 (by rw [List.length_take]; omega)
        have hvb := valB_lt (Rr.take P)
        have hv2 : 2 ^ (Rr.take P).length ≤ 2 ^ 24 := two_pow_lt _ _ (by simp; omega)
        have hvs : (valB (Rr.take P) : Int) ≤ 16777216 := by omega
        clear hvb hv2
        have Hfb := veil hfb
        obtain ⟨v, hv⟩ : ∃ v, v = valB (Rr.take P) := ⟨_, rfl⟩
        rw [← hv] at Hst Hfb hvs
        have hdl : (Rr.drop P).length ≤ N := by rw [List.length_drop]; omega
        have Hdl := veil hdl
        obtain ⟨R2, hR2⟩ : ∃ R2, R2 = Rr.drop P := ⟨_, rfl⟩
        rw [← hR2] at Hst hcutB Hdl
        generalize txt (Rr.take P) = ta at *
        obtain ⟨tb, htb⟩ : ∃ tb, tb = txt R2 := ⟨_, rfl⟩
        rw [← htb] at hcutB
        have Htb := veil htb
        clear hfb E3 E4 hv hR2 htb hdl
        generalize txt Rr = tx at *
        go_wp2_with fail
        refine Hfb.out.mono ?_
        rintro e w5 ⟨rfl, hb5⟩
        have HX5 := HX4.out.below hb5 (by omega)
        have hX5c := HX5.cell (i := 0) (v := .string (txt s)) rfl
        have hX5f := HX5.frozen 0
        have HT5 := (HT4.out.below hb5 (by omega)).kept (grown_setCell w5 g 0 (.string tb)) (fun e => by injection e with e; omega)
        have HX6 := HX5.set 0 (.string tb)
        have hb5w := hbw4'.out.trans (hb5.mono (by omega))
        have Hg6 := veil (grown_grown' (grown_below (World.grownBy.refl w (some g)) hb5w (Nat.le_refl _)) (grown_setCell w5 g 0 (.string tb)))
        have HZ6 := veil ((HST.out.below hb5w hTz).kept (grown_setCell w5 g 0 (.string tb)) (fun e => by injection e with e; exact hTg e))
        have HA6 := veil (((HSA.out.below hb5w hG)).grown (grown_setCell w5 g 0 (.string tb)) hGg (Nat.le_trans hG hb5w.size))
        have HB6 := veil (((HSB.out.below hb5w hG)).grown (grown_setCell w5 g 0 (.string tb)) hGg (Nat.le_trans hG hb5w.size))
        have HX6 := veil HX6
        have HT5 := veil HT5
        have hgt : g < w.heap.size := hgz
        have hszw5 : w.heap.size ≤ w5.heap.size := hb5w.size
        clear HX5 hb5w hb5 Hfb HT4 HX4 hbw4'
        go_wp2_with (first
          | (refine wpList_store_blk (w5.setCell ⟨g, 0, none⟩ (.string tb)) rfl 56 (.tmp 4) (.tmp 58) rfl w.heap.size tok000 [.int .i64 (P : Int), .int .i64 (P : Int), .int .i64 (v : Int)] 56 HT5.out rfl rfl info_tokR rfl (tokw_one _ _ _) ?_; intro w7 HB7 hg7)
          | fail)
        have hkz : w.heap.size ≤ (w5.setCell ⟨g, 0, none⟩ (.string tb)).heap.size := Hg6.out.size
        refine segNext_ok Hst.out rfl rfl rfl rfl HB7 (grown_grown Hg6.out hg7 (Nat.le_refl _)) (HR.out w7 R2 (HZ6.out.kept hg7 (fun e => by injection e with e; omega)) ?_ (HA6.out.grown hg7 hG (by omega)) (HB6.out.grown hg7 hG (by omega)) Hdl.out)
        have := HX6.out.kept hg7 (fun e => by injection e with e; omega)
        rw [Htb.out] at this
        exact this
  · have Hst := veil (E1.out hE)
    have hne : (nextE ws s != 0) = true := by simpa using hE
    clear E1 E2 E3 E4 hE Hnr
    generalize nextE ws s = ne at *
    generalize nextS ws s = sy at *
    generalize txt (nextR ws s) = tx at *
    go_wp2_with (first
      | (refine wpList_store_blk w4 rfl 56 (.tmp 4) (.tmp 26) rfl w.heap.size tok000 tok000 56 HT4.out rfl rfl info_tokR rfl tok000_one ?_; intro w5 HB5 hg5)
      | fail)
    exact segNext_err Hst.out rfl rfl rfl HB5 (grown_grown Hg4.out hg5 (Nat.le_refl _))
set_option maxRecDepth 100000 in
set_option maxHeartbeats 1000000 in
theorem segNext_rest (cs syms : List Int) (A : Option Addr) (c : Nat) (cs2 syms2 : List Int) (A2 : Option Addr) (c2 G T g N : Nat) (s : List Bool) (w : World)
    (hcs : cs.length = 16) (hcs2 : cs2.length = 16) (h1 : checkErr cs syms = 0) (h2 : checkErr cs2 syms2 = 0) (hN : N ≤ 140737488355328) (hTg : T ≠ g) (hG : G ≤ w.heap.size) (hGT : G ≤ T) (hGg : G ≤ g)
    (hS : SrcD cs syms A c cs2 syms2 A2 c2 G T g N w s) :
    Calls Try.prog 47 #[.bool false, .pointer (some ⟨T, 0, none⟩), .pointer (some ⟨g, 0, none⟩)] w fun e w' => NextPost (SrcD cs syms A c cs2 syms2 A2 c2 G T g N) g w (stepS (outWords cs syms) (outWords cs2 syms2) false s) e w' := by
  obtain ⟨ST, SX, SA, SB, SN⟩ := hS
  have hTz := ST.lt
  have hgz := SX.lt
  obtain ⟨l, hf, how, hll⟩ := fine_of h2
  have HSy := veil (fun W (h : Seen W G A2 (ints .i64 syms2)) (hG : G ≤ W.heap.size) => symOf_any cs2 syms2 l A2 c2 G s W hcs2 hf h hG (by omega))
  rw [← how] at HSy
  obtain ⟨ws, hws⟩ : ∃ ws, ws = wsOf (outWords cs syms) (outWords cs2 syms2) false := ⟨_, rfl⟩
  have hws2 : outWords cs2 syms2 = ws := hws.symm
  rw [hws2] at HSy
  have hsm : ∀ t ∈ ws, 0 ≤ t.1 ∧ t.1 ≤ 255 := by
    rw [← hws2, how]
    exact fun t ht => (hf.word hcs2 ht).1
  have hL := nextL_le (ws := ws) (b := s)
  have hSy := nextS_wf (ws := ws) (b := s) hsm
  have E1 := veil (stepR_word (fw := outWords cs syms) (rw_ := outWords cs2 syms2) (first := false) (b := s))
  have E2 := veil (stepR_wide (fw := outWords cs syms) (rw_ := outWords cs2 syms2) (first := false) (b := s))
  have E3 := veil (stepR_short (fw := outWords cs syms) (rw_ := outWords cs2 syms2) (first := false) (b := s))
  have E4 := veil (stepR_ok (fw := outWords cs syms) (rw_ := outWords cs2 syms2) (first := false) (b := s))
  have hnr := nextR_hit (ws := ws) (b := s)
  rw [← hws] at E1 E2 E3 E4
  obtain ⟨st, hst⟩ : ∃ st, st = stepS (outWords cs syms) (outWords cs2 syms2) false s := ⟨_, rfl⟩
  rw [← hst] at E1 E2 E3 E4 ⊢
  have hr0 := ST.range
  have hr1 := range_left hr0
  have hr2 := range_right hr0
  have h17 : (tabCells cs A syms.length c).length = 17 := tabCells_length hcs
  have h17b : (tabCells cs2 A2 syms2.length c2).length = 17 := tabCells_length hcs2
  have o17 := tabCells_one (cs := cs) (A := A) (n := syms.length) (c := c)
  have o17b := tabCells_one (cs := cs2) (A := A2) (n := syms2.length) (c := c2)
  rw [h17] at hr2
  have HR := veil (fun W s2 (a1 : Blk W T (tabsCells cs A syms.length c cs2 A2 syms2.length c2) 36) (a2 : Blk W g [.string (txt s2)] 9) (a3 : Seen W G A (ints .i64 syms)) (a4 : Seen W G A2 (ints .i64 syms2)) (a5 : s2.length ≤ N) => (⟨a1, a2, a3, a4, a5⟩ : SrcD cs syms A c cs2 syms2 A2 c2 G T g N W s2))
  obtain ⟨R, hR⟩ : ∃ R, R = SrcD cs syms A c cs2 syms2 A2 c2 G T g N := ⟨_, rfl⟩
  rw [← hR] at HR ⊢
  have hb1 := below1 w (.cells tok000.toArray 56)
  have hB1 := Blk.new w tok000 56
  have hz1 : (w.alloc (.cells tok000.toArray 56)).heap.size = w.heap.size + 1 := by simp
  have hra := range_below hr1 hb1 hTz
  have hrb := range_below hr2 hb1 hTz
  have hST := ST; have hSX := SX
  have Hnr := veil hnr; have HSbd := veil hSy; have HL := veil hL; have HSn := veil SN
  have H17 := veil h17; have H17b := veil h17b
  have HST := veil ST; have HSX := veil SX; have HSA := veil SA; have HSB := veil SB
  clear hr0 hr1 hr2 ST SX SA SB hws hws2 how hf hll hsm hR hst hcs hcs2 h1 h2 hST hSX hnr hSy hL SN h17 h17b
  unfold tabV at HSy
  generalize tabsCells cs A syms.length c cs2 A2 syms2.length c2 = zs at *
  generalize tabCells cs A syms.length c = xs at *
  generalize tabCells cs2 A2 syms2.length c2 = ys at *
  obtain ⟨W1, hW1⟩ : ∃ W1, W1 = w.alloc (.cells tok000.toArray 56) := ⟨_, rfl⟩
  have HW1 := veil hW1
  rw [← hW1] at hb1 hB1 hz1 hra hrb
  clear hW1
  have hbY := below1 W1 (.cells ys.toArray 34)
  have hBY := Blk.new W1 ys 34
  have hraY := range_below hra hbY (by omega)
  go_enter Try.func47, Try.ntmps47
  go_upto_region 1 with fail
  rw [show w.alloc (.cells #[Value.int IntKind.i64 0, Value.int IntKind.i64 0, Value.int IntKind.i64 0] 56) = W1 from HW1.out.symm]
  go_upto_region 2 with (first
    | (refine wpList_load_mid rfl 34 (.tmp 12) rfl T 17 rfl ys _ (by simpa using hrb) Try.underlying34 rfl (by rw [H17b.out]; exact info_tab) ?_)
    | (refine wpList_store_newQ W1 (w.heap.size + 1) hz1 rfl 34 (.tmp 6) (.tmp 13) rfl _ ys rfl rfl (by rw [H17b.out]; exact info_tab) (by rw [H17b.out]; rfl) o17b ?_)
    | fail)
  obtain ⟨W2, hW2⟩ : ∃ W2, W2 = W1.alloc (.cells ys.toArray 34) := ⟨_, rfl⟩
  rw [← hW2] at hbY hBY hraY ⊢
  have hz2 : W2.heap.size = W1.heap.size + 1 := by rw [hW2]; simp
  clear hW2
  rw [hz1] at hBY
  go_upto_region 4 with fail
  obtain ⟨W3, hW3⟩ : ∃ W3, W3 = W2 := ⟨_, rfl⟩
  have hB3 := hBY
  have hb23 : Below W1.heap.size W2 W3 := by rw [hW3]; exact Below.refl _ _
  rw [← hW3] at hB3 ⊢
  clear hW3
  have hbw3 : Below w.heap.size w W3 := (hb1.trans (hbY.mono (by omega))).trans (hb23.mono (by omega))
  have hz3 := hb23.size
  have hX3 := HSX.out.below hbw3 hgz
  have hXc := hX3.cell (i := 0) (v := .string (txt s)) rfl
  have hB3r := hB3.range
  have HCall := veil (HSy.out W3 (HSB.out.below hbw3 hG) (by omega))
  have hTok3 := (hB1.below hbY (by omega)).below hb23 (by omega)
  have Htok := veil hTok3
  clear hXc hX3 hTok3
  have hXc := (HSX.out.below hbw3 hgz).cell (i := 0) (v := .string (txt s)) rfl
  clear hra hrb hraY hBY hb23 hbY hb1 hB1
  go_wp2_with (first
    | (refine wpList_load_mid rfl 34 (.tmp 6) rfl (w.heap.size + 1) 0 rfl ys _ hB3r Try.underlying34 rfl (by rw [H17b.out]; exact info_tab) ?_)
    | fail)
  refine HCall.out.mono ?_
  rintro e w4 ⟨rfl, hb4⟩
  have hz4 := hb4.size
  have hbw4 := hbw3.trans (hb4.mono (by omega))
  have HT4 := Htok.out.below hb4 (by omega)
  have hgr4 := grown_below (World.grownBy.refl w (some g)) hbw4 (Nat.le_refl _)
  have Hg4 := veil hgr4
  have HT4 := veil HT4
  have HX4 := veil (HSX.out.below hbw4 hgz)
  have hbw4' := veil hbw4
  have hz14 : w.heap.size + 1 ≤ w4.heap.size := by omega
  clear HCall hB3r hB3 Htok HSy hXc hb4 hbw3 hgr4 hbw4 o17 o17b
  by_cases hE : nextE ws s = 0
  · have hnr := Hnr.out hE
    rw [hE, hnr]
    have e2 := E2.out hE
    have e3 := E3.out hE
    have e4 := E4.out hE
    clear E2 E3 E4
    have E2 := veil e2
    have E3 := veil e3
    have E4 := veil e4
    clear e2 e3 e4
    obtain ⟨hS0, hS1⟩ := HSbd.out
    have hLs := HL.out
    have hSn := HSn.out
    clear E1 hnr Hnr HSbd HL HSn hE
    generalize nextS ws s = sy at *
    generalize nextL ws s = L at *
    obtain ⟨Rr, hRr⟩ : ∃ Rr, Rr = s.drop L := ⟨_, rfl⟩
    rw [← hRr] at E3 E4 ⊢
    have hRl : Rr.length ≤ N := by rw [hRr, List.length_drop]; omega
    clear hRr
    obtain ⟨P, hP⟩ : ∃ P : Nat, sy % 16 = (P : Int) := ⟨(sy % 16).toNat, by omega⟩
    have hwd : widS false sy = (P : Int) := hP
    rw [hwd] at E2 E3 E4
    have e2 : 12 < (P : Int) ∨ True ∧ 11 < (P : Int) → st = Sum.inl 4 := E2.out
    have e3 : ¬ (12 < (P : Int) ∨ True ∧ 11 < (P : Int)) → Rr.length < P → st = Sum.inl 3 := E3.out
    have e4 : ¬ (12 < (P : Int) ∨ True ∧ 11 < (P : Int)) → ¬ Rr.length < P → st = Sum.inr ((sy, (P : Int), ((valB (Rr.take P) : Nat) : Int)), Rr.drop P) := E4.out
    clear E2 E3 E4
    have E2 := veil e2
    have E3 := veil e3
    have E4 := veil e4
    clear e2 e3 e4
    have hsz : (txt Rr).size = Rr.length := txt_size Rr
    by_cases hw : 11 < (P : Int)
    · have hst := E2.out (by first | exact .inl hw | exact .inr ⟨trivial, hw⟩)
      have Hst := veil hst
      clear hst E2 E3 E4
      go_wp2_with (first
        | (refine wpList_store_blk w4 rfl 56 (.tmp 4) (.tmp 42) rfl w.heap.size tok000 tok000 56 HT4.out rfl rfl info_tokR rfl tok000_one ?_; intro w5 HB5 hg5)
        | fail)
      all_goals exact segNext_err Hst.out rfl rfl rfl HB5 (grown_grown Hg4.out hg5 (Nat.le_refl _))
    · have hnw : ¬ (12 < (P : Int) ∨ (True ∧ 11 < (P : Int))) := fun h => h.elim (fun h => hw (by omega)) (fun h => hw h.2)
      have e3 := E3.out hnw
      have e4 := E4.out hnw
      clear E3 E4
      have E3 := veil e3
      have E4 := veil e4
      clear e3 e4
      have hP12 : P ≤ 12 := by omega
      clear hnw E2
      have hw12 : ¬ 12 < (P : Int) := by omega
      by_cases hsh : Rr.length < P
      · have Hst := veil (E3.out hsh)
        have hshz : (Rr.length : Int) < (P : Int) := by omega
        clear E3 E4
        generalize txt Rr = tx at *
        go_wp2_with (first
          | (refine wpList_store_blk w4 rfl 56 (.tmp 4) (.tmp 47) rfl w.heap.size tok000 tok000 56 HT4.out rfl rfl info_tokR rfl tok000_one ?_; intro w5 HB5 hg5)
          | fail)
        exact segNext_err Hst.out rfl rfl rfl HB5 (grown_grown Hg4.out hg5 (Nat.le_refl _))
      · have Hst := veil (E4.out hsh)
        have hshz : ¬ (Rr.length : Int) < (P : Int) := by omega
        have hcutA : ∀ w, (Instr.slice 9 (.string (txt Rr)) none (some (.int .i64 (P : Int))) none).run Try.prog w = .ok (.string (txt (Rr.take P))) w := by
          intro w
          rw [run_slice_string_to_if w 9 (txt Rr) .i64 _ Try.underlying9, if_pos ⟨by omega, by rw [hsz]; omega⟩, Int.toNat_natCast, txt_extract]
          simp
        have hcutB : ∀ w, (Instr.slice 9 (.string (txt Rr)) (some (.int .i64 (P : Int))) none none).run Try.prog w = .ok (.string (txt (Rr.drop P))) w := by
          intro w
          rw [run_slice_string_from_if w 9 (txt Rr) .i64 _ Try.underlying9, if_pos ⟨by omega, by rw [hsz]; omega⟩, Int.toNat_natCast, hsz, txt_extract]
          rw [List.take_of_length_le (by simp)]
        have hfb := fromBinary_any (Rr.take P) w4 (by rw [List.length_take]; omega)
        have hvb := valB_lt (Rr.take P)
        have hv2 : 2 ^ (Rr.take P).length ≤ 2 ^ 24 := two_pow_lt _ _ (by simp; omega)
        have hvs : (valB (Rr.take P) : Int) ≤ 16777216 := by omega
        clear hvb hv2
        have Hfb := veil hfb
        obtain ⟨v, hv⟩ : ∃ v, v = valB (Rr.take P) := ⟨_, rfl⟩
        rw [← hv] at Hst Hfb hvs
        have hdl : (Rr.drop P).length ≤ N := by rw [List.length_drop]; omega
        have Hdl := veil hdl
        obtain ⟨R2, hR2⟩ : ∃ R2, R2 = Rr.drop P := ⟨_, rfl⟩
        rw [← hR2] at Hst hcutB Hdl
        generalize txt (Rr.take P) = ta at *
        obtain ⟨tb, htb⟩ : ∃ tb, tb = txt R2 := ⟨_, rfl⟩
        rw [← htb] at hcutB
        have Htb := veil htb
        clear hfb E3 E4 hv hR2 htb hdl
        generalize txt Rr = tx at *
        go_wp2_with fail
        refine Hfb.out.mono ?_
        rintro e w5 ⟨rfl, hb5⟩
        have HX5 := HX4.out.below hb5 (by omega)
        have hX5c := HX5.cell (i := 0) (v := .string (txt s)) rfl
        have hX5f := HX5.frozen 0
        have HT5 := (HT4.out.below hb5 (by omega)).kept (grown_setCell w5 g 0 (.string tb)) (fun e => by injection e with e; omega)
        have HX6 := HX5.set 0 (.string tb)
        have hb5w := hbw4'.out.trans (hb5.mono (by omega))
        have Hg6 := veil (grown_grown' (grown_below (World.grownBy.refl w (some g)) hb5w (Nat.le_refl _)) (grown_setCell w5 g 0 (.string tb)))
        have HZ6 := veil ((HST.out.below hb5w hTz).kept (grown_setCell w5 g 0 (.string tb)) (fun e => by injection e with e; exact hTg e))
        have HA6 := veil (((HSA.out.below hb5w hG)).grown (grown_setCell w5 g 0 (.string tb)) hGg (Nat.le_trans hG hb5w.size))
        have HB6 := veil (((HSB.out.below hb5w hG)).grown (grown_setCell w5 g 0 (.string tb)) hGg (Nat.le_trans hG hb5w.size))
        have HX6 := veil HX6
        have HT5 := veil HT5
        have hgt : g < w.heap.size := hgz
        have hszw5 : w.heap.size ≤ w5.heap.size := hb5w.size
        clear HX5 hb5w hb5 Hfb HT4 HX4 hbw4'
        go_wp2_with (first
          | (refine wpList_store_blk (w5.setCell ⟨g, 0, none⟩ (.string tb)) rfl 56 (.tmp 4) (.tmp 58) rfl w.heap.size tok000 [.int .i64 sy, .int .i64 (P : Int), .int .i64 (v : Int)] 56 HT5.out rfl rfl info_tokR rfl (tokw_one _ _ _) ?_; intro w7 HB7 hg7)
          | fail)
        have hkz : w.heap.size ≤ (w5.setCell ⟨g, 0, none⟩ (.string tb)).heap.size := Hg6.out.size
        refine segNext_ok Hst.out rfl rfl rfl rfl HB7 (grown_grown Hg6.out hg7 (Nat.le_refl _)) (HR.out w7 R2 (HZ6.out.kept hg7 (fun e => by injection e with e; omega)) ?_ (HA6.out.grown hg7 hG (by omega)) (HB6.out.grown hg7 hG (by omega)) Hdl.out)
        have := HX6.out.kept hg7 (fun e => by injection e with e; omega)
        rw [Htb.out] at this
        exact this
  · have Hst := veil (E1.out hE)
    have hne : (nextE ws s != 0) = true := by simpa using hE
    clear E1 E2 E3 E4 hE Hnr
    generalize nextE ws s = ne at *
    generalize nextS ws s = sy at *
    generalize txt (nextR ws s) = tx at *
    go_wp2_with (first
      | (refine wpList_store_blk w4 rfl 56 (.tmp 4) (.tmp 26) rfl w.heap.size tok000 tok000 56 HT4.out rfl rfl info_tokR rfl tok000_one ?_; intro w5 HB5 hg5)
      | fail)
    exact segNext_err Hst.out rfl rfl rfl HB5 (grown_grown Hg4.out hg5 (Nat.le_refl _))
end Go.Proofs.Ytbboakdfnjjddaa

/- The reference's comparison of two lists of tokens tells whether they are equal. -/
namespace Go.Proofs.Ytbboakdfnjjddaa
open Go.RowKit
set_option linter.unusedVariables false
set_option linter.unusedSimpArgs false
set_option maxRecDepth 100000

set_option maxRecDepth 100000 in
set_option maxHeartbeats 1000000 in
theorem eqTok (A B : Option Addr) (c d G : Nat) (xs ys : List (Int × Int × Int)) (w : World) (hx : Seen w G A (tokCells xs)) (hy : Seen w G B (tokCells ys)) (hG : G ≤ w.heap.size) (hlx : xs.length ≤ 1099511627776) (hly : ys.length ≤ 1099511627776) :
    Calls Try.prog 69 #[.slice A xs.length c, .slice B ys.length d] w fun e w' => e = .returned (.bool (decide (xs = ys))) ∧ Below w.heap.size w w' := by
  by_cases hl : xs.length = ys.length
  · have hne : ((xs.length : Int) != (ys.length : Int)) = false := by simp [hl]
    have Hl := veil hl
    clear hl
    go_enter Try.func69, Try.ntmps69
    go_wp2_with fail
    go_loopg [5, 6, 14] xs.length (fun gk i0 p0 i wr => ∃ k : Nat, gk = xs.length - k ∧ k ≤ xs.length ∧ i = .int .i64 k ∧ Hid (xs.take k = ys.take k) ∧ Below w.heap.size w wr)
    case atStart => exact ⟨0, rfl, Nat.zero_le _, rfl, veil rfl, Below.refl _ _⟩
    case round =>
      obtain ⟨k, rfl, hk, rfl, He, hbel⟩ := hrel
      have hz := hbel.size
      by_cases hlt : k < xs.length
      · have hky : (k : Int) < (ys.length : Int) := by have := Hl.out; omega
        obtain ⟨g, o, s, n, m, rfl, hg, hxk, h1, h2, h3⟩ := hx.tok hlt
        obtain ⟨g', o', s', n', m', rfl, hg', hyk, h4, h5, h6⟩ := hy.tok (k := k) (by omega)
        rw [← hbel.cell (by simp; omega)] at h1 h2 h3 h4 h5 h6
        have Hx := veil hxk; have Hy := veil hyk
        clear hxk hyk hx hy
        have hbel2 := hbel.trans ((below1 wr (Obj.cells #[Value.int IntKind.i64 s, Value.int IntKind.i64 n, Value.int IntKind.i64 m] 56)).mono hz)
        rw [← (below1 wr (Obj.cells #[Value.int IntKind.i64 s, Value.int IntKind.i64 n, Value.int IntKind.i64 m] 56)).cell (by simp; omega)] at h4 h5 h6
        have c0 : (wr.alloc (Obj.cells #[Value.int IntKind.i64 s, Value.int IntKind.i64 n, Value.int IntKind.i64 m] 56)).cell? ⟨wr.heap.size, 0, none⟩ = some (.int .i64 s) := by simp
        have c1 : (wr.alloc (Obj.cells #[Value.int IntKind.i64 s, Value.int IntKind.i64 n, Value.int IntKind.i64 m] 56)).cell? ⟨wr.heap.size, 1, none⟩ = some (.int .i64 n) := by simp
        have c2 : (wr.alloc (Obj.cells #[Value.int IntKind.i64 s, Value.int IntKind.i64 n, Value.int IntKind.i64 m] 56)).cell? ⟨wr.heap.size, 2, none⟩ = some (.int .i64 m) := by simp
        have hgd : Try.prog.eqGuardType Try.prog.depth 56 = false := by kernel_rfl
        have hneq := fun w => neq_tok s n m s' n' m' w
        by_cases hq : (s, n, m) = (s', n', m')
        · have hb : (!(s == s' && (n == n' && m == m'))) = false := by
            simp only [Prod.mk.injEq] at hq
            obtain ⟨rfl, rfl, rfl⟩ := hq
            simp
          rw [hb] at hneq
          have Hq := veil hq
          clear hb hq
          go_wp2_with fail
          generalize wr.alloc (Obj.cells #[Value.int IntKind.i64 s, Value.int IntKind.i64 n, Value.int IntKind.i64 m] 56) = W at *
          go_quiet (fail)
          go_wp2
          go_roundg (xs.length - (k + 1))
          case rel => exact ⟨k + 1, rfl, by omega, by go_num, veil (by rw [take_snoc Hx.out, take_snoc Hy.out, He.out, Hq.out]), hbel2.drewN _⟩
          case measure => omega
        · have hb : (!(s == s' && (n == n' && m == m'))) = true := by
            simp only [Bool.not_eq_true', Bool.and_eq_false_iff, beq_eq_false_iff_ne]
            refine Classical.byContradiction fun h => hq ?_
            have h1 : s = s' := Classical.byContradiction fun e => h (.inl e)
            have h2 : n = n' := Classical.byContradiction fun e => h (.inr (.inl e))
            have h3 : m = m' := Classical.byContradiction fun e => h (.inr (.inr e))
            rw [h1, h2, h3]
          rw [hb] at hneq
          have Hq := veil hq
          clear hb hq
          go_wp2_with fail
          generalize wr.alloc (Obj.cells #[Value.int IntKind.i64 s, Value.int IntKind.i64 n, Value.int IntKind.i64 m] 56) = W at *
          go_quiet (fail)
          go_wp2
          go_ret
          refine ⟨ret_bool ?_, hbel2.drewN _⟩
          symm
          simp only [decide_eq_false_iff_not]
          intro e
          have h3 := Hx.out
          rw [e, Hy.out] at h3
          exact Hq.out (by injection h3 with h3; exact h3.symm)
      · go_wp2
        go_ret
        refine ⟨ret_bool ?_, hbel⟩
        symm
        have h3 := He.out
        rw [List.take_of_length_le (by omega), List.take_of_length_le (by have := Hl.out; omega)] at h3
        simpa using h3
  · have hne : ((xs.length : Int) != (ys.length : Int)) = true := by simp; omega
    have hd : decide (xs = ys) = false := by simp; intro e; exact hl (by rw [e])
    have Hd := veil hd
    clear hd hl
    go_enter Try.func69, Try.ntmps69
    go_wp2
    go_ret
    exact ⟨ret_bool Hd.out.symm, Below.refl _ _⟩
end Go.Proofs.Ytbboakdfnjjddaa
