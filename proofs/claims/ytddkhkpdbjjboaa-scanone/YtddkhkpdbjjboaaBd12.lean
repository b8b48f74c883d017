/- Texts shared by the claims of this seat, in one. -/
import Derived.Test.YtddkhkpdbjjboaaBd11
import Derived.Test.YtddkhkpdbjjboaaBd4
import Derived.Test.YtddkhkpdbjjboaaBd9
import Derived.Test.YtddkhkpdbjjboaaBd1
import Derived.Laws.CopyOwn
import Derived.RangeFuncNested
import Derived.RangeFuncBound
import Derived.RangeFuncCalls
import Derived.RangeFuncLeaves
import Derived.RangeFuncBox
import Derived.Shelf.Abstract
import Derived.Shelf.RegionOpen
import Derived.WalkKit
import Derived.OwnWalkIn
import Derived.TacticsInMore
import Derived.LoopNIn
import Derived.LoopIn
import Derived.Test.YtddkhkpdbjjboaaRows
/- Segments encoded, in numbers: errors and lengths. -/
namespace Go.Proofs.Ytddkhkpdbjjboaa
open Go.RowKit
set_option linter.unusedVariables false
set_option linter.unusedSimpArgs false
set_option maxRecDepth 100000

section
variable {cs syms cs2 syms2 : List Int} {L : List (List Int)} {every : Int}
theorem eScan_every (h : every < 0 ∨ 100 < every) : eScan cs syms cs2 syms2 L every = 1 := if_pos h
theorem eScan_tab (h : ¬ (every < 0 ∨ 100 < every)) (h2 : eTs cs syms cs2 syms2 ≠ 0) : eScan cs syms cs2 syms2 L every = eTs cs syms cs2 syms2 := by unfold eScan; rw [if_neg h, if_pos h2]
theorem eScan_blk (h : ¬ (every < 0 ∨ 100 < every)) (h2 : eTs cs syms cs2 syms2 = 0) (h3 : eL L ≠ 0) : eScan cs syms cs2 syms2 L every = eL L := by unfold eScan; rw [if_neg h, if_neg (by rw [h2]; decide), if_pos h3]
theorem eScan_seg (h : ¬ (every < 0 ∨ 100 < every)) (h2 : eTs cs syms cs2 syms2 = 0) (h3 : eL L = 0) : eScan cs syms cs2 syms2 L every = firstE ((segs L every).map (eEnc cs syms cs2 syms2)) := by unfold eScan; rw [if_neg h, if_neg (by rw [h2]; decide), if_neg (by rw [h3]; decide)]
theorem oScan_err (h : eScan cs syms cs2 syms2 L every ≠ 0) : oScan cs syms cs2 syms2 L every = [] := if_neg h
theorem segF_len (hcs : cs.length = 16) (hcs2 : cs2.length = 16) (hl : ∀ r ∈ L, r.length = 64) : (segF cs syms cs2 syms2 L).length ≤ 250002 := by
  unfold segF
  by_cases h0 : eEnc cs syms cs2 syms2 L = 0
  · rw [if_pos h0]
    obtain ⟨h1, h2, h3⟩ := eEnc_none h0
    obtain ⟨h400, hin⟩ := eL_zero h3
    have h5 := segBits_len (words_pf2 hcs h1) (words_pf2 hcs2 h2) (toksB 0 L) (toksB_good L 0 hl hin (by omega))
    have h6 := toksB_len L 0
    obtain ⟨p, hp, hu⟩ := unpack_packB (segBits (outWords cs syms) (outWords cs2 syms2) (toksB 0 L))
    have h7 := congrArg List.length hu
    rw [unpack_length, List.length_append, List.length_replicate] at h7
    have h8 := stuffB_length_le (packB (segBits (outWords cs syms) (outWords cs2 syms2) (toksB 0 L)))
    omega
  · rw [if_neg h0]; simp
end
theorem u8_208 (q : Nat) (h : q < 8) : IntKind.u8.wrap (208 + (q : Int)) = 208 + (q : Int) := by
  have : q = 0 ∨ q = 1 ∨ q = 2 ∨ q = 3 ∨ q = 4 ∨ q = 5 ∨ q = 6 ∨ q = 7 := by omega
  rcases this with rfl | rfl | rfl | rfl | rfl | rfl | rfl | rfl <;> rfl
theorem seen_second {w : World} {B : Nat} {r : Row} {A : Option Addr} {c : Nat} {xs : List Int} (h : Owns B [r, byteRow (.slice A xs.length c) xs] w) : Seen w w.heap.size A (ints .u8 xs) := by
  obtain ⟨A2, c2, e, hs, _, _⟩ := h.seen (List.mem_cons_of_mem _ (List.mem_cons_self ..))
  have e' : (Value.slice A xs.length c) = .slice A2 xs.length c2 := e
  obtain ⟨rfl, rfl⟩ : A = A2 ∧ c = c2 := by simpa using e'
  exact hs
end Go.Proofs.Ytddkhkpdbjjboaa

/- Blocks out of bits: the bits of their tokens are what was read. -/
namespace Go.Proofs.Ytddkhkpdbjjboaa
set_option linter.unusedVariables false
set_option linter.unusedSimpArgs false
set_option maxRecDepth 100000

theorem symF_mine {ws : List (Int × Nat × Nat)} (hnd : (ws.map (·.1)).Nodup) {t : Int × Nat × Nat} (ht : t ∈ ws) : symF ws t.1 = some (fi t) := by
  induction ws using snoc_ind with
  | h0 => simp at ht
  | h1 ws u ih =>
    rw [List.map_append, List.nodup_append] at hnd
    rw [symF_snoc]
    unfold upd
    by_cases e : t.1 = u.1
    · rw [if_pos e]
      rcases List.mem_append.1 ht with h | h
      · exact absurd e (hnd.2.2 t.1 (List.mem_map_of_mem h) u.1 (by simp))
      · simp at h; rw [h]
    · rw [if_neg e]
      rcases List.mem_append.1 ht with h | h
      · exact ih hnd.1 h
      · simp at h; rw [h] at e; exact absurd rfl e
theorem next_word {ws : List (Int × Nat × Nat)} {b : List Bool} (h : nextE ws b = 0) : ∃ t ∈ ws, nextS ws b = t.1 ∧ nextL ws b = t.2.1 ∧ bitsN t.2.1 t.2.2 <+: b := by
  unfold nextE at h
  split at h
  · rename_i h1
    obtain ⟨⟨s, n⟩, hp⟩ := Option.isSome_iff_exists.1 h1
    obtain ⟨t, ht, e1, e2, h2⟩ := find1_mem hp
    exact ⟨t, ht, by unfold nextS; rw [hp, e1]; rfl, by unfold nextL; rw [hp, e2]; rfl, h2⟩
  · split at h <;> cases h
/-- Words of symbols that are all different. -/
def Own1 (ws : List (Int × Nat × Nat)) : Prop := (ws.map (·.1)).Nodup
theorem step_bits {fw rw_ : List (Int × Nat × Nat)} {first : Bool} (hnd : Own1 (wsOf fw rw_ first)) {b s : List Bool} {t : Int × Int × Int} (h : stepS fw rw_ first b = .inr (t, s)) :
    b = tokBits (wsOf fw rw_ first) t ++ s ∧ (symF (wsOf fw rw_ first) t.1).isSome = true := by
  unfold stepS at h
  by_cases h1 : nextE (wsOf fw rw_ first) b = 0
  · rw [if_neg (by rw [h1]; decide)] at h
    split at h
    · cases h
    · rename_i h2
      split at h
      · cases h
      · rename_i h3
        injection h with h
        injection h with h4 h5
        obtain ⟨u, hu, e1, e2, h6⟩ := next_word h1
        have hs := symF_mine hnd hu
        have hb := List.prefix_iff_eq_take.1 h6
        rw [bitsN_length] at hb
        rw [e1, e2] at h3 h4 h5
        generalize hW : widS first u.1 = W at *
        subst h4 h5
        refine ⟨?_, by rw [hs]; rfl⟩
        unfold tokBits symBits
        simp only [hs, Option.getD_some, fi, Int.toNat_natCast]
        have h7 := bitsN_valB (((b.drop u.2.1).take W.toNat))
        rw [show ((b.drop u.2.1).take W.toNat).length = W.toNat by rw [List.length_take]; omega] at h7
        rw [h7, hb, List.append_assoc, List.take_append_drop, List.take_append_drop]
  · rw [if_pos h1] at h; cases h
theorem rest_bits {fw rw_ : List (Int × Nat × Nat)} (hnd : Own1 rw_) : ∀ (k : Nat) (b : List Bool), (gR (stepS fw rw_) k b).1 = 0 → ∃ s', (gR (stepS fw rw_) k b).2.2.2 = some s' ∧
    b = ((gR (stepS fw rw_) k b).2.2.1.flatMap (tokBits rw_)) ++ s' ∧ ∀ t ∈ (gR (stepS fw rw_) k b).2.2.1, (symF rw_ t.1).isSome = true := by
  intro k
  induction k using Nat.strongRecOn with
  | _ k ih =>
    intro b h
    cases k with
    | zero => rw [gR]; exact ⟨b, rfl, rfl, by simp⟩
    | succ k =>
      rw [gR] at h ⊢
      cases hst : stepS fw rw_ false b with
      | inl e => rw [hst] at h; exact absurd h (stepS_ne hst)
      | inr q =>
        obtain ⟨t, s2⟩ := q
        obtain ⟨g1, g2⟩ := step_bits (first := false) hnd hst
        rw [show wsOf fw rw_ false = rw_ from rfl] at g1 g2
        rw [hst] at h
        simp only [] at h ⊢
        by_cases h1 : okT t = true
        · rw [if_pos h1] at h ⊢
          by_cases h2 : t.1 = 0
          · rw [if_pos h2]
            exact ⟨s2, rfl, by simp only [List.flatMap_cons, List.flatMap_nil, List.append_nil]; exact g1, fun u hu => by rw [List.mem_singleton.1 hu]; exact g2⟩
          · rw [if_neg h2] at h ⊢
            by_cases h3 : k + 1 < farT t
            · rw [if_pos h3] at h; simp at h
            · rw [if_neg h3] at h ⊢
              have hp : 0 < farT t := by unfold farT; omega
              by_cases h4 : (gR (stepS fw rw_) (k + 1 - farT t) s2).1 = 0
              · obtain ⟨s', e1, e2, e3⟩ := ih (k + 1 - farT t) (by omega) s2 h4
                rw [if_pos h4]
                refine ⟨s', e1, ?_, fun u hu => ?_⟩
                · simp only [List.flatMap_cons, List.append_assoc]
                  rw [← e2]; exact g1
                · rcases List.mem_cons.1 hu with rfl | hu
                  · exact g2
                  · exact e3 u hu
              · rw [if_neg h4] at h; exact absurd h h4
        · rw [if_neg h1] at h; simp at h
theorem flag_bits (fw rw_ : List (Int × Nat × Nat)) (t : Int × Int × Int) (l : List (Int × Int × Int)) : segBits fw rw_ (flagT (t :: l)) = tokBits fw t ++ l.flatMap (tokBits rw_) := by
  unfold segBits flagT
  simp [List.flatMap_cons, wsOf, List.flatMap_map]
theorem flag_all {fw rw_ : List (Int × Nat × Nat)} {t : Int × Int × Int} {l : List (Int × Int × Int)} (h1 : (symF fw t.1).isSome = true) (h2 : ∀ u ∈ l, (symF rw_ u.1).isSome = true) : AllW fw rw_ (flagT (t :: l)) := by
  intro x hx
  unfold flagT at hx
  rcases List.mem_cons.1 hx with rfl | hx
  · exact h1
  · obtain ⟨u, hu, rfl⟩ := List.mem_map.1 hx
    exact h2 u hu
theorem blk_bits {fw rw_ : List (Int × Nat × Nat)} (hnd1 : Own1 fw) (hnd2 : Own1 rw_) {before : Int} {b : List Bool} (h : (gB (stepS fw rw_) before b).1 = 0) : ∃ s', (gB (stepS fw rw_) before b).2.2.2 = some s' ∧
    b = segBits fw rw_ (flagT (gB (stepS fw rw_) before b).2.2.1) ++ s' ∧ AllW fw rw_ (flagT (gB (stepS fw rw_) before b).2.2.1) := by
  cases hst : stepS fw rw_ true b with
  | inl e => rw [gB_none hst] at h; exact absurd h (stepS_ne hst)
  | inr q =>
    obtain ⟨t, s2⟩ := q
    obtain ⟨g1, g2⟩ := step_bits (first := true) hnd1 hst
    rw [show wsOf fw rw_ true = fw from rfl] at g1 g2
    by_cases hf : firstT before t
    · rw [gB_go hst hf] at h ⊢
      by_cases h4 : (gR (stepS fw rw_) 63 s2).1 = 0
      · obtain ⟨s', e1, e2, e3⟩ := rest_bits (fw := fw) hnd2 63 s2 h4
        unfold joinG at h ⊢
        rw [if_pos h4] at h ⊢
        unfold finG at h ⊢
        rw [if_pos rfl] at h ⊢
        by_cases h5 : toksZ before ([before + numT t] ++ (gR (stepS fw rw_) 63 s2).2.1) = [t] ++ (gR (stepS fw rw_) 63 s2).2.2.1
        · rw [if_pos h5]
          refine ⟨s', e1, ?_, ?_⟩
          · show b = segBits fw rw_ (flagT ([t] ++ (gR (stepS fw rw_) 63 s2).2.2.1)) ++ s'
            rw [List.singleton_append, flag_bits, List.append_assoc, ← e2]; exact g1
          · show AllW fw rw_ (flagT ([t] ++ (gR (stepS fw rw_) 63 s2).2.2.1))
            rw [List.singleton_append]; exact flag_all g2 e3
        · rw [if_neg h5] at h; simp at h
      · unfold joinG at h
        rw [if_neg h4] at h
        unfold finG at h
        rw [if_neg h4] at h
        exact absurd h h4
    · rw [gB_bad hst hf] at h; simp at h
theorem decS_bits {fw rw_ : List (Int × Nat × Nat)} (hnd1 : Own1 fw) (hnd2 : Own1 rw_) : ∀ (n : Nat) (before : Int) (b : List Bool), (decS fw rw_ n before b).1 = 0 →
    b = segBits fw rw_ (toksB before (decS fw rw_ n before b).2.1) ++ (decS fw rw_ n before b).2.2 ∧ AllW fw rw_ (toksB before (decS fw rw_ n before b).2.1) ∧ (decS fw rw_ n before b).2.1.length = n ∧ ∀ r ∈ (decS fw rw_ n before b).2.1, r.length = 64 ∧ inB (-2047) 2047 r = true
  | 0, before, b, _ => by
    rw [decS]
    exact ⟨rfl, fun x hx => by simp [toksB] at hx, rfl, by simp⟩
  | n + 1, before, b, h => by
    rw [decS] at h ⊢
    by_cases h1 : (gB (stepS fw rw_) before b).1 = 0
    · rw [if_pos h1] at h ⊢
      obtain ⟨s', e1, e2, e3⟩ := blk_bits hnd1 hnd2 h1
      obtain ⟨g1, g2, _, g4⟩ := gB_in (fun _ _ _ h => stepS_ne h) h1
      simp only [e1, Option.getD_some] at h ⊢
      by_cases h2 : (decS fw rw_ n ((fromL (gB (stepS fw rw_) before b).2.1).headD 0) s').1 = 0
      · rw [if_pos h2]
        obtain ⟨i1, i2, i3, i4⟩ := decS_bits hnd1 hnd2 n _ s' h2
        have et : toksZ before (toL (fromL (gB (stepS fw rw_) before b).2.1)) = (gB (stepS fw rw_) before b).2.2.1 := by rw [to_from g1]; exact g4
        refine ⟨?_, ?_, ?_, fun r hr => ?_⟩
        · simp only [toksB]
          rw [et, segBits_append, List.append_assoc, ← i1]; exact e2
        · simp only [toksB]
          rw [et]; exact e3.append i2
        · simp only [List.length_cons]; rw [i3]
        · rcases List.mem_cons.1 hr with rfl | hr
          · exact ⟨fromL_length _, inB_from g1 g2⟩
          · exact i4 r hr
      · rw [if_neg h2] at h; exact absurd h h2
    · rw [if_neg h1] at h; exact absurd h h1
theorem own1_of {cs syms : List Int} (h : checkErr cs syms = 0) : Own1 (outWords cs syms) := by
  obtain ⟨l, hf, hw, hll⟩ := fine_of h
  unfold Own1
  rw [hw, mkWords_fst hll]; exact hf.nodup
theorem all_true : ∀ {s : List Bool}, s.all id = true → s = List.replicate s.length true
  | [], _ => rfl
  | x :: s, h => by
    simp only [List.all_cons, Bool.and_eq_true, id] at h
    rw [h.1, List.length_cons, List.replicate_succ, ← all_true h.2]
/-- What was decoded is encoded as just these bytes. -/
theorem again_ok {cs syms cs2 syms2 bs : List Int} {n : Int} (hcs : cs.length = 16) (hcs2 : cs2.length = 16) (hby : Bytes bs) (h : eDec cs syms cs2 syms2 bs n = 0) :
    (∀ r ∈ oDec cs syms cs2 syms2 bs n, r.length = 64) ∧ ((oDec cs syms cs2 syms2 bs n).length : Int) = n ∧ n ≤ 400 ∧ eEnc cs syms cs2 syms2 (oDec cs syms cs2 syms2 bs n) = 0 ∧ ∀ out, SegOut cs syms cs2 syms2 (oDec cs syms cs2 syms2 bs n) out → out = bs := by
  have ho : oDec cs syms cs2 syms2 bs n = (segD cs syms cs2 syms2 bs n.toNat).2.1 := if_pos h
  have h1 : checkErr cs syms = 0 := by
    refine Classical.byContradiction fun h1 => ?_
    unfold eDec eTs at h
    simp [h1] at h
  have h2 : checkErr cs2 syms2 = 0 := by
    refine Classical.byContradiction fun h2 => ?_
    unfold eDec eTs at h
    simp [h1, h2] at h
  have hT : eTs cs syms cs2 syms2 = 0 := by unfold eTs; rw [if_pos h1]; exact h2
  unfold eDec at h
  rw [if_neg (by rw [hT]; decide)] at h
  by_cases h3 : n < 0 ∨ 400 < n
  · rw [if_pos h3] at h; cases h
  · rw [if_neg h3] at h
    by_cases h4 : plainErr bs = 0
    · rw [if_neg (by rw [h4]; decide)] at h
      by_cases h5 : (segD cs syms cs2 syms2 bs n.toNat).1 = 0
      · rw [if_neg (by rw [h5]; decide)] at h
        by_cases h6 : fillB (segD cs syms cs2 syms2 bs n.toNat).2.2 = true
        · obtain ⟨b1, b2, b3, b4⟩ := decS_bits (own1_of h1) (own1_of h2) n.toNat 0 (unpack (plainOut bs)) h5
          rw [ho]
          unfold segD at h6 ⊢
          generalize hO : (decS (outWords cs syms) (outWords cs2 syms2) n.toNat 0 (unpack (plainOut bs))).2.1 = O at *
          generalize hS : (decS (outWords cs syms) (outWords cs2 syms2) n.toNat 0 (unpack (plainOut bs))).2.2 = s at *
          have hE : eL O = 0 := eL_ok (by omega) fun r hr => (b4 r hr).2
          have hen : eEnc cs syms cs2 syms2 O = 0 := by rw [eEnc_end h1 h2 hE, if_pos b2]
          refine ⟨fun r hr => (b4 r hr).1, by omega, by omega, hen, fun out hout => ?_⟩
          obtain ⟨raw, rfl, hrb, p, hp, hu⟩ := hout.2 hen
          unfold fillB at h6
          simp only [Bool.and_eq_true, decide_eq_true_eq] at h6
          have hs := all_true h6.2
          cases hpl : plainR bs with
          | none => rw [(plain_none hpl).2] at h4; cases h4
          | some q =>
            rw [(plain_some hpl).1] at b1
            have hqb : Bytes q := by
              exact fun x hx => hby x (plainR_mem bs q hpl x hx)
            have l1 := congrArg List.length b1
            have l2 := congrArg List.length hu
            rw [unpack_length, List.length_append] at l1 l2
            rw [List.length_replicate] at l2
            have hps : p = s.length := by omega
            rw [hps, ← hs, ← b1] at hu
            rw [unpack_inj hrb hqb hu]
            exact stuffB_plainR bs q hpl
        · rw [if_neg h6] at h; cases h
      · rw [if_pos h5] at h; exact absurd h h5
    · rw [if_pos h4] at h; exact absurd h h4
end Go.Proofs.Ytddkhkpdbjjboaa

/- Segments decoded, in numbers: pieces, marks, errors. -/
namespace Go.Proofs.Ytddkhkpdbjjboaa
set_option linter.unusedVariables false
set_option linter.unusedSimpArgs false
set_option maxRecDepth 100000

theorem zip_at {α β : Type} {a : List α} {b : List β} {k : Nat} {x : α} {y : β} (ha : a[k]? = some x) (hb : b[k]? = some y) : (a.zip b)[k]? = some (x, y) := by
  rw [List.getElem?_zip_eq_some]; exact ⟨ha, hb⟩
/-- What pieces and marks are made of. -/
theorem splitR_in : ∀ (bs cur : List Int) (q : List (List Int) × List Int), splitR bs cur = some q → (∀ p ∈ q.1, p.length ≤ cur.length + bs.length ∧ ∀ x ∈ p, x ∈ cur ∨ x ∈ bs) ∧ (∀ y ∈ q.2, y ∈ bs) ∧ q.1.length = q.2.length + 1 ∧ q.2.length ≤ bs.length
  | [], cur, q, h => by
    simp [splitR] at h; subst h
    simp
  | [x], cur, q, h => by
    by_cases hx : x = 255
    · subst hx; rw [splitR_end] at h; cases h
    · rw [splitR_other hx] at h
      simp [splitR] at h; subst h
      simp
  | x :: y :: r, cur, q, h => by
    by_cases hx : x = 255
    · subst hx
      by_cases hy : y = 255
      · subst hy; rw [splitR_two] at h; cases h
      · by_cases hy0 : y = 0
        · subst hy0
          rw [splitR_pad] at h
          obtain ⟨h1, h2, h3, h4⟩ := splitR_in r (cur ++ [255, 0]) q h
          refine ⟨fun p hp => ?_, fun z hz => ?_, h3, by simp; omega⟩
          · obtain ⟨g1, g2⟩ := h1 p hp
            refine ⟨by simp at g1 ⊢; omega, fun z hz => ?_⟩
            rcases g2 z hz with g | g
            · rcases List.mem_append.1 g with g | g
              · exact .inl g
              · exact .inr (by simp at g ⊢; rcases g with g | g <;> simp [g])
            · exact .inr (by simp [g])
          · have := h2 z hz; simp [this]
        · rw [splitR_mark hy hy0] at h
          obtain ⟨q', hq', rfl⟩ := Option.map_eq_some_iff.1 h
          obtain ⟨h1, h2, h3, h4⟩ := splitR_in r [] q' hq'
          refine ⟨fun p hp => ?_, fun z hz => ?_, by simp [h3], by simp; omega⟩
          · rcases List.mem_cons.1 hp with rfl | hp
            · exact ⟨by omega, fun z hz => .inl hz⟩
            · obtain ⟨g1, g2⟩ := h1 p hp
              refine ⟨by simp at g1 ⊢; omega, fun z hz => ?_⟩
              rcases g2 z hz with g | g
              · simp at g
              · exact .inr (by simp [g])
          · rcases List.mem_cons.1 hz with rfl | hz
            · simp
            · have := h2 z hz; simp [this]
    · rw [splitR_other hx] at h
      obtain ⟨h1, h2, h3, h4⟩ := splitR_in (y :: r) (cur ++ [x]) q h
      refine ⟨fun p hp => ?_, fun z hz => ?_, h3, by simp at h4 ⊢; omega⟩
      · obtain ⟨g1, g2⟩ := h1 p hp
        refine ⟨by simp at g1 ⊢; omega, fun z hz => ?_⟩
        rcases g2 z hz with g | g
        · rcases List.mem_append.1 g with g | g
          · exact .inl g
          · exact .inr (by simp at g; simp [g])
        · exact .inr (List.mem_cons_of_mem _ g)
      · exact List.mem_cons_of_mem _ (h2 z hz)
theorem splitP_in {bs p : List Int} (h : p ∈ splitP bs) : p.length ≤ bs.length ∧ ∀ x ∈ p, x ∈ bs := by
  cases hs : splitR bs [] with
  | none => rw [(split_none hs).1] at h; simp at h
  | some q =>
    rw [(split_some hs).1] at h
    obtain ⟨g1, g2⟩ := (splitR_in bs [] q hs).1 p h
    refine ⟨by simpa using g1, fun x hx => ?_⟩
    rcases g2 x hx with g | g
    · simp at g
    · exact g
theorem splitP_bytes {bs p : List Int} (hb : Bytes bs) (h : p ∈ splitP bs) : Bytes p := fun x hx => hb x ((splitP_in h).2 x hx)
theorem splitP_count {bs : List Int} (h : splitErr bs = 0) : (splitP bs).length = (splitM bs).length + 1 ∧ (splitM bs).length ≤ bs.length := by
  cases hs : splitR bs [] with
  | none => rw [(split_none hs).2.2] at h; cases h
  | some q =>
    rw [(split_some hs).1, (split_some hs).2.1]
    exact ⟨(splitR_in bs [] q hs).2.2.1, (splitR_in bs [] q hs).2.2.2⟩
theorem marksB_iff (ms : List Int) : marksB ms = true ↔ ∀ (j : Nat) (m : Int), ms[j]? = some m → m = 208 + ((j % 8 : Nat) : Int) := by
  unfold marksB
  rw [List.all_eq_true]
  constructor
  · intro h j m hm
    have := h (m, j) (by rw [List.mem_zipIdx_iff_getElem?]; exact hm)
    simpa using this
  · intro h x hx
    obtain ⟨m, j⟩ := x
    rw [List.mem_zipIdx_iff_getElem?] at hx
    simpa using h j m hx
theorem marksB_bad {ms : List Int} {j : Nat} {m : Int} (hm : ms[j]? = some m) (h : m ≠ 208 + ((j % 8 : Nat) : Int)) : marksB ms = false := by
  cases hb : marksB ms with
  | false => rfl
  | true => exact absurd ((marksB_iff ms).1 hb j m hm) h
section
variable {cs syms cs2 syms2 bs : List Int} {n every : Int}
theorem eScD_head (h : eHead cs syms cs2 syms2 bs n every ≠ 0) : eScD cs syms cs2 syms2 bs n every = eHead cs syms cs2 syms2 bs n every := if_pos h
theorem eScD_count (h : eHead cs syms cs2 syms2 bs n every = 0) (h2 : (partsN n.toNat every.toNat).length ≠ (splitP bs).length) : eScD cs syms cs2 syms2 bs n every = 4 := by unfold eScD; rw [if_neg (by rw [h]; decide), if_pos h2]
theorem eScD_mark (h : eHead cs syms cs2 syms2 bs n every = 0) (h2 : (partsN n.toNat every.toNat).length = (splitP bs).length) (h3 : marksB (splitM bs) = false) : eScD cs syms cs2 syms2 bs n every = 6 := by unfold eScD; rw [if_neg (by rw [h]; decide), if_neg (by rw [h2]; simp), if_pos h3]
theorem eScD_segs (h : eHead cs syms cs2 syms2 bs n every = 0) (h2 : (partsN n.toNat every.toNat).length = (splitP bs).length) (h3 : marksB (splitM bs) = true) : eScD cs syms cs2 syms2 bs n every = eSegs cs syms cs2 syms2 bs n every := by unfold eScD; rw [if_neg (by rw [h]; decide), if_neg (by rw [h2]; simp), if_neg (by rw [h3]; decide)]
theorem oScD_err (h : eScD cs syms cs2 syms2 bs n every ≠ 0) : oScD cs syms cs2 syms2 bs n every = [] := if_neg h
theorem eHead_zero (h : eHead cs syms cs2 syms2 bs n every = 0) : ¬ (every < 0 ∨ 100 < every ∨ n < 0 ∨ 400 < n) ∧ eTs cs syms cs2 syms2 = 0 ∧ splitErr bs = 0 := by
  unfold eHead at h
  by_cases h1 : every < 0 ∨ 100 < every ∨ n < 0 ∨ 400 < n
  · rw [if_pos h1] at h; cases h
  · rw [if_neg h1] at h
    by_cases h2 : eTs cs syms cs2 syms2 = 0
    · rw [if_neg (by rw [h2]; decide)] at h; exact ⟨h1, h2, h⟩
    · rw [if_pos h2] at h; exact absurd h h2
/-- What a piece is decoded to: its blocks have 64 numbers each, and there are so many. -/
theorem oDec_rows (hcs : cs.length = 16) (hcs2 : cs2.length = 16) {p : List Int} (hb : Bytes p) (m : Int) : (∀ r ∈ oDec cs syms cs2 syms2 p m, r.length = 64) ∧ (eDec cs syms cs2 syms2 p m = 0 → ((oDec cs syms cs2 syms2 p m).length : Int) = m) := by
  by_cases h : eDec cs syms cs2 syms2 p m = 0
  · obtain ⟨h1, h2, _⟩ := again_ok hcs hcs2 hb h
    exact ⟨h1, fun _ => h2⟩
  · rw [oDec_err h]; exact ⟨by simp, fun h2 => absurd h2 h⟩
end
end Go.Proofs.Ytddkhkpdbjjboaa

/- What Decode and Mend ask first, in numbers. -/
namespace Go.Proofs.Ytddkhkpdbjjboaa
open Go.RowKit
set_option linter.unusedVariables false
set_option linter.unusedSimpArgs false
set_option maxRecDepth 100000

section
variable {cs syms cs2 syms2 bs : List Int} {n every : Int}
theorem eHead_arg (h : every < 0 ∨ 100 < every ∨ n < 0 ∨ 400 < n) : eHead cs syms cs2 syms2 bs n every = 1 := if_pos h
theorem eHead_tab (h : ¬ (every < 0 ∨ 100 < every ∨ n < 0 ∨ 400 < n)) (h2 : eTs cs syms cs2 syms2 ≠ 0) : eHead cs syms cs2 syms2 bs n every = eTs cs syms cs2 syms2 := by unfold eHead; rw [if_neg h, if_pos h2]
theorem eHead_split (h : ¬ (every < 0 ∨ 100 < every ∨ n < 0 ∨ 400 < n)) (h2 : eTs cs syms cs2 syms2 = 0) : eHead cs syms cs2 syms2 bs n every = splitErr bs := by unfold eHead; rw [if_neg h, if_neg (by rw [h2]; decide)]
end
section
variable (cs syms cs2 syms2 bs : List Int) (n every : Int)
/-- The pieces and the marks behind what Decode and Mend ask first. -/
def headP : List (List Int) := if eHead cs syms cs2 syms2 bs n every = 0 then splitP bs else []
def headM : List Int := if eHead cs syms cs2 syms2 bs n every = 0 then splitM bs else []
end
theorem head_split {cs syms cs2 syms2 bs : List Int} {n every : Int} (h : ¬ (every < 0 ∨ 100 < every ∨ n < 0 ∨ 400 < n)) (h2 : eTs cs syms cs2 syms2 = 0) : headP cs syms cs2 syms2 bs n every = splitP bs ∧ headM cs syms cs2 syms2 bs n every = splitM bs := by
  unfold headP headM
  rw [eHead_split h h2]
  cases hs : splitR bs [] with
  | none => obtain ⟨h1, h2, h3⟩ := split_none hs; rw [h1, h2]; simp
  | some q => obtain ⟨_, _, h3⟩ := split_some hs; rw [h3]; simp
end Go.Proofs.Ytddkhkpdbjjboaa

/- copy of blocks into a block of memory that is known. -/
namespace Go.Proofs.Ytddkhkpdbjjboaa
open Go.RowKit
set_option linter.unusedVariables false
set_option linter.unusedSimpArgs false
set_option maxRecDepth 100000

end Go.Proofs.Ytddkhkpdbjjboaa

/- Mend in numbers, step by step; blocks of zeros made. -/
namespace Go.Proofs.Ytddkhkpdbjjboaa
open Go.RowKit
set_option linter.unusedVariables false
set_option linter.unusedSimpArgs false
set_option maxRecDepth 100000

section
variable {cs syms cs2 syms2 : List Int} {ps : List (List Int)} {ns : List Nat} {k m : Nat}
end
end Go.Proofs.Ytddkhkpdbjjboaa

/- Rows of blocks written in place; what Mend answers where it refuses. -/
namespace Go.Proofs.Ytddkhkpdbjjboaa
open Go.RowKit
set_option linter.unusedVariables false
set_option linter.unusedSimpArgs false
set_option maxRecDepth 100000

section
variable {cs syms cs2 syms2 bs : List Int} {n every : Int}
end
end Go.Proofs.Ytddkhkpdbjjboaa

/- What scan's Encode, Decode and Mend are to do, as the laws use it. -/
namespace Go.Proofs.Ytddkhkpdbjjboaa
open Go.RowKit
set_option linter.unusedVariables false
set_option linter.unusedSimpArgs false
set_option maxRecDepth 100000

/-- Two tables in memory. -/
structure TabsIn (cs syms : List Int) (A : Option Addr) (c : Nat) (cs2 syms2 : List Int) (A2 : Option Addr) (c2 G : Nat) (w : World) : Prop where
  len : cs.length = 16
  max : syms.length ≤ maxLen
  cap : syms.length ≤ c
  bnd : ∀ x ∈ cs, -9223372036854775808 ≤ x ∧ x ≤ 9223372036854775807
  see : Seen w G A (ints .i64 syms)
  len2 : cs2.length = 16
  max2 : syms2.length ≤ maxLen
  cap2 : syms2.length ≤ c2
  bnd2 : ∀ x ∈ cs2, -9223372036854775808 ≤ x ∧ x ≤ 9223372036854775807
  see2 : Seen w G A2 (ints .i64 syms2)
theorem TabsIn.below {cs syms : List Int} {A : Option Addr} {c : Nat} {cs2 syms2 : List Int} {A2 : Option Addr} {c2 G B : Nat} {w w' : World} (h : TabsIn cs syms A c cs2 syms2 A2 c2 G w) (hb : Below B w w') (hG : G ≤ B) : TabsIn cs syms A c cs2 syms2 A2 c2 G w' :=
  ⟨h.len, h.max, h.cap, h.bnd, h.see.below hb hG, h.len2, h.max2, h.cap2, h.bnd2, h.see2.below hb hG⟩
theorem TabsIn.up {cs syms : List Int} {A : Option Addr} {c : Nat} {cs2 syms2 : List Int} {A2 : Option Addr} {c2 G G' : Nat} {w : World} (h : TabsIn cs syms A c cs2 syms2 A2 c2 G w) (hG : G ≤ G') : TabsIn cs syms A c cs2 syms2 A2 c2 G' w :=
  ⟨h.len, h.max, h.cap, h.bnd, h.see.up hG, h.len2, h.max2, h.cap2, h.bnd2, h.see2.up hG⟩
/-- scan.Encode's contract. -/
def EncSpec : Prop := ∀ (cs syms : List Int) (A : Option Addr) (c : Nat) (cs2 syms2 : List Int) (A2 : Option Addr) (c2 G : Nat) (L : List (List Int)) (A3 : Option Addr) (c3 : Nat) (every : Int) (w : World),
  TabsIn cs syms A c cs2 syms2 A2 c2 G w → (∀ r ∈ L, r.length = 64) → L.length ≤ maxLen → L.length ≤ c3 → Seen w G A3 (rowsC L) → G ≤ w.heap.size →
    Calls Try.prog 6 #[tabsV cs A syms.length c cs2 A2 syms2.length c2, .slice A3 L.length c3, .int .i64 every] w fun e w' => ∃ v, e = .returned (.tuple #[v, .int .i64 (eScan cs syms cs2 syms2 L every)]) ∧ Owns w.heap.size [byteRow v (oScan cs syms cs2 syms2 L every)] w' ∧ Below w.heap.size w w'
/-- scan.Decode's contract. -/
def DecSpec : Prop := ∀ (cs syms : List Int) (A : Option Addr) (c : Nat) (cs2 syms2 : List Int) (A2 : Option Addr) (c2 G : Nat) (bs : List Int) (A3 : Option Addr) (c3 : Nat) (n every : Int) (w : World),
  TabsIn cs syms A c cs2 syms2 A2 c2 G w → Bytes bs → bs.length ≤ 1048576 → bs.length ≤ c3 → Seen w G A3 (ints .u8 bs) → G ≤ w.heap.size →
    Calls Try.prog 10 #[tabsV cs A syms.length c cs2 A2 syms2.length c2, .slice A3 bs.length c3, .int .i64 n, .int .i64 every] w fun e w' => ∃ v, e = .returned (.tuple #[v, .int .i64 (eScD cs syms cs2 syms2 bs n every)]) ∧ Owns w.heap.size [blkRow v (oScD cs syms cs2 syms2 bs n every)] w' ∧ Below w.heap.size w w'
theorem tabs34 {cs syms : List Int} {A : Option Addr} {c : Nat} {cs2 syms2 : List Int} {A2 : Option Addr} {c2 : Nat} (h : cs.length = 16) (h2 : cs2.length = 16) : (tabsCells cs A syms.length c cs2 A2 syms2.length c2).length = 34 := by unfold tabsCells; rw [List.length_append, tabCells_length h, tabCells_length h2]
end Go.Proofs.Ytddkhkpdbjjboaa

/- Blocks out of their own bits, in numbers: what was written is read; what is read stays so with more behind it. -/
namespace Go.Proofs.Ytddkhkpdbjjboaa
set_option linter.unusedVariables false
set_option linter.unusedSimpArgs false
set_option maxRecDepth 100000

section
variable {σ τ : Type} {step1 : Bool → σ → Int ⊕ ((Int × Int × Int) × σ)} {step2 : Bool → τ → Int ⊕ ((Int × Int × Int) × τ)} {R : σ → τ → Prop}
/-- Two readers that tell the same tokens tell the same numbers. -/
theorem gR_sim (hne : ∀ b s e, step1 b s = .inl e → e ≠ 0) (hR : ∀ s u t s', R s u → step1 false s = .inr (t, s') → ∃ u', step2 false u = .inr (t, u') ∧ R s' u') : ∀ (k : Nat) (s : σ) (u : τ), R s u → (gR step1 k s).1 = 0 →
    ∃ s' u', (gR step1 k s).2.2.2 = some s' ∧ gR step2 k u = (0, (gR step1 k s).2.1, (gR step1 k s).2.2.1, some u') ∧ R s' u' := by
  intro k
  induction k using Nat.strongRecOn with
  | _ k ih =>
    intro s u hr h
    cases k with
    | zero => rw [gR] at h ⊢; rw [gR]; exact ⟨s, u, rfl, rfl, hr⟩
    | succ k =>
      rw [gR] at h ⊢
      rw [gR]
      cases hst : step1 false s with
      | inl e => rw [hst] at h; exact absurd h (hne _ _ _ hst)
      | inr q =>
        obtain ⟨t, s2⟩ := q
        obtain ⟨u2, hu2, hr2⟩ := hR s u t s2 hr hst
        rw [hst] at h
        rw [hu2]
        simp only [] at h ⊢
        by_cases h1 : okT t = true
        · rw [if_pos h1] at h
          simp only [if_pos h1]
          by_cases h2 : t.1 = 0
          · simp only [if_pos h2]; exact ⟨s2, u2, rfl, rfl, hr2⟩
          · rw [if_neg h2] at h
            simp only [if_neg h2]
            by_cases h3 : k + 1 < farT t
            · rw [if_pos h3] at h; simp at h
            · rw [if_neg h3] at h
              simp only [if_neg h3]
              have hp : 0 < farT t := by unfold farT; omega
              by_cases h4 : (gR step1 (k + 1 - farT t) s2).1 = 0
              · obtain ⟨s', u', e1, e2, e3⟩ := ih (k + 1 - farT t) (by omega) s2 u2 hr2 h4
                simp only [if_pos h4, e2, if_true]
                exact ⟨s', u', e1, rfl, e3⟩
              · rw [if_neg h4] at h; exact absurd h h4
        · rw [if_neg h1] at h; simp at h
theorem gB_sim (hne : ∀ b s e, step1 b s = .inl e → e ≠ 0) (hR : ∀ s u t s', R s u → step1 false s = .inr (t, s') → ∃ u', step2 false u = .inr (t, u') ∧ R s' u') {before : Int} {s : σ} {u : τ}
    (hF : ∀ t s', step1 true s = .inr (t, s') → ∃ u', step2 true u = .inr (t, u') ∧ R s' u') (h : (gB step1 before s).1 = 0) :
    ∃ s' u', (gB step1 before s).2.2.2 = some s' ∧ gB step2 before u = (0, (gB step1 before s).2.1, (gB step1 before s).2.2.1, some u') ∧ R s' u' := by
  cases hst : step1 true s with
  | inl e => rw [gB_none hst] at h; exact absurd h (hne _ _ _ hst)
  | inr q =>
    obtain ⟨t, s2⟩ := q
    obtain ⟨u2, hu2, hr2⟩ := hF t s2 hst
    by_cases hf : firstT before t
    · rw [gB_go hst hf] at h ⊢
      rw [gB_go hu2 hf]
      by_cases h4 : (gR step1 63 s2).1 = 0
      · obtain ⟨s', u', e1, e2, e3⟩ := gR_sim hne hR 63 s2 u2 hr2 h4
        unfold joinG at h ⊢
        rw [if_pos h4] at h
        simp only [if_pos h4, e2, if_true]
        unfold finG at h ⊢
        rw [if_pos rfl] at h
        simp only [if_true]
        by_cases h5 : toksZ before ([before + numT t] ++ (gR step1 63 s2).2.1) = [t] ++ (gR step1 63 s2).2.2.1
        · simp only [if_pos h5]; exact ⟨s', u', e1, rfl, e3⟩
        · rw [if_neg h5] at h; simp at h
      · unfold joinG at h
        rw [if_neg h4] at h
        unfold finG at h
        rw [if_neg h4] at h
        exact absurd h h4
    · rw [gB_bad hst hf] at h; simp at h
end
section
variable {fw rw_ : List (Int × Nat × Nat)}
/-- A token out of its own bits. -/
theorem step_tok {first : Bool} (hpf : PF (wsOf fw rw_ first)) {t : Int × Int × Int} (hw : (symF (wsOf fw rw_ first) t.1).isSome = true) (hfit : fitT t = true) (hwid : widS first t.1 = t.2.1) (hmax : first = false → t.2.1 ≤ 11) (u : List Bool) :
    stepS fw rw_ first (tokBits (wsOf fw rw_ first) t ++ u) = .inr (t, u) := by
  obtain ⟨p, hp⟩ := Option.isSome_iff_exists.1 hw
  obtain ⟨wd, hmem, e1, e2⟩ := symF_mem hp
  obtain ⟨t0, t1, t2⟩ := t
  have hf2 : 0 ≤ t1 ∧ t1 ≤ 12 ∧ 0 ≤ t2 ∧ t2 < pw t1.toNat := by unfold fitT at hfit; simpa using hfit
  obtain ⟨X, rfl⟩ : ∃ X : Nat, t1 = (X : Int) := ⟨t1.toNat, by omega⟩
  obtain ⟨Y, rfl⟩ : ∃ Y : Nat, t2 = (Y : Int) := ⟨t2.toNat, by omega⟩
  have hY : Y < 2 ^ X := by
    have h1 := hf2.2.2.2
    rw [Int.toNat_natCast] at h1
    unfold pw at h1
    have h2 : ((2 : Int) ^ X) = ((2 ^ X : Nat) : Int) := by push_cast; rfl
    omega
  have hb : tokBits (wsOf fw rw_ first) (t0, (X : Int), (Y : Int)) = bitsN wd.2.1 wd.2.2 ++ bitsN X Y := by
    unfold tokBits symBits
    simp only at hp
    rw [hp, ← e2]
    simp [fi]
  rw [hb, List.append_assoc]
  have hfd : find1 (wsOf fw rw_ first) (bitsN wd.2.1 wd.2.2 ++ (bitsN X Y ++ u)) = some (wd.1, wd.2.1) := hpf.find hmem (List.prefix_append _ _)
  have hE : nextE (wsOf fw rw_ first) (bitsN wd.2.1 wd.2.2 ++ (bitsN X Y ++ u)) = 0 := by unfold nextE; rw [hfd]; rfl
  have hS : nextS (wsOf fw rw_ first) (bitsN wd.2.1 wd.2.2 ++ (bitsN X Y ++ u)) = t0 := by unfold nextS; rw [hfd]; exact e1
  have hL : nextL (wsOf fw rw_ first) (bitsN wd.2.1 wd.2.2 ++ (bitsN X Y ++ u)) = wd.2.1 := by unfold nextL; rw [hfd]; rfl
  simp only at hwid hmax
  unfold stepS
  rw [hE, hS, hL, hwid, if_neg (by decide), if_neg (by
    intro h
    rcases h with h | ⟨h1, h2⟩
    · omega
    · have := hmax h1; omega), List.drop_left' (bitsN_length _ _), Int.toNat_natCast, if_neg (by rw [List.length_append, bitsN_length]; omega)]
  rw [List.take_left' (bitsN_length _ _), List.drop_left' (bitsN_length _ _), valB_bitsN _ _ hY]
theorem rest_okT : ∀ (zs : List Int) (r : Nat), (∀ z ∈ zs, -2047 ≤ z ∧ z ≤ 2047) → ∀ t ∈ restT r zs, okT t = true
  | [], r, _, t, ht => by
    rw [restT_nil] at ht
    split at ht
    · simp at ht
    · rw [List.mem_singleton.1 ht]; exact tkEnd_ok
  | z :: zs, r, h, t, ht => by
    have hzs : ∀ z ∈ zs, -2047 ≤ z ∧ z ≤ 2047 := fun x hx => h x (List.mem_cons_of_mem _ hx)
    have hz := h z List.mem_cons_self
    by_cases h0 : z = 0
    · subst h0
      rw [restT_zero] at ht
      exact rest_okT zs (r + 1) hzs t ht
    · rw [restT_cons r zs h0] at ht
      rcases List.mem_append.1 ht with ht | ht
      · rw [(List.mem_replicate.1 ht).2]; exact tkLong_ok
      · rcases List.mem_cons.1 ht with rfl | ht
        · exact tkN_ok (by omega) h0 hz.1 hz.2
        · exact rest_okT zs 0 hzs t ht
theorem okT_wid {t : Int × Int × Int} (h : okT t = true) : fitT t = true ∧ widS false t.1 = t.2.1 ∧ t.2.1 ≤ 11 := by
  unfold okT at h
  simp only [Bool.and_eq_true, decide_eq_true_eq] at h
  exact ⟨h.1, h.2.2.2.1, h.2.2.2.2.1⟩
/-- A block out of its own bits. -/
theorem gB_back (hpf1 : PF fw) (hpf2 : PF rw_) {before : Int} {zs : List Int} (hb : -2047 ≤ before ∧ before ≤ 2047) (hl : zs.length = 64) (h : ∀ z ∈ zs, -2047 ≤ z ∧ z ≤ 2047) (hA : AllW fw rw_ (flagT (toksZ before zs))) (u : List Bool) :
    gB (stepS fw rw_) before (segBits fw rw_ (flagT (toksZ before zs)) ++ u) = (0, zs, toksZ before zs, some u) := by
  match zs, hl, h, hA with
  | z :: zs, hl, h, hA =>
    have hz := h z List.mem_cons_self
    have hzs : ∀ z ∈ zs, -2047 ≤ z ∧ z ≤ 2047 := fun x hx => h x (List.mem_cons_of_mem _ hx)
    rw [List.length_cons] at hl
    have hr := decR_restT zs 0 [] hzs
    rw [Nat.zero_add, show zs.length = 63 by omega, List.append_nil, List.replicate_zero, List.nil_append] at hr
    have hgl : gR stepL 63 (restT 0 zs) = (0, zs, restT 0 zs, some []) := by
      rw [gR_list, hr]; simp
    have hsz := sz_12 (n := z - before) (by omega) (by omega)
    have hfit : fitT (tkN 0 (z - before)) = true := tkN_fit (by omega) (by omega)
    have e : before + numT (tkN 0 (z - before)) = z := by rw [numT_tkN]; omega
    have hw1 : (symF fw (tkN 0 (z - before)).1).isSome = true := by
      have := hA (true, tkN 0 (z - before)) (by simp [toksZ, flagT])
      exact this
    have hw2 : ∀ t ∈ restT 0 zs, (symF rw_ t.1).isSome = true := by
      intro t ht
      have := hA (false, t) (by simp only [toksZ, flagT]; exact List.mem_cons_of_mem _ (List.mem_map_of_mem (f := fun x => (false, x)) ht))
      exact this
    have hst := step_tok (first := true) (fw := fw) (rw_ := rw_) hpf1 hw1 hfit (by unfold widS tkN; simp) (by intro h; cases h) ((restT 0 zs).flatMap (tokBits rw_) ++ u)
    rw [show wsOf fw rw_ true = fw from rfl] at hst
    simp only [toksZ]
    rw [flag_bits, List.append_assoc]
    rw [gB_go hst ⟨hfit, by unfold tkN; simp, by rw [e]; exact hz.1, by rw [e]; exact hz.2⟩, e]
    obtain ⟨s', u', e1, e2, e3⟩ := gR_sim (step1 := stepL) (step2 := stepS fw rw_) (R := fun l v => v = l.flatMap (tokBits rw_) ++ u ∧ ∀ t ∈ l, okT t = true ∧ (symF rw_ t.1).isSome = true)
      (fun b s e h => by cases s <;> simp [stepL] at h; omega)
      (fun s v t s' hR hs => by
        cases s with
        | nil => simp [stepL] at hs
        | cons a s =>
          simp only [stepL, Sum.inr.injEq, Prod.mk.injEq] at hs
          obtain ⟨rfl, rfl⟩ := hs
          obtain ⟨rfl, hall⟩ := hR
          obtain ⟨o1, o2⟩ := hall a List.mem_cons_self
          obtain ⟨w1, w2, w3⟩ := okT_wid o1
          refine ⟨s.flatMap (tokBits rw_) ++ u, ?_, rfl, fun t ht => hall t (List.mem_cons_of_mem _ ht)⟩
          have := step_tok (first := false) (fw := fw) (rw_ := rw_) hpf2 o2 w1 w2 (fun _ => w3) (s.flatMap (tokBits rw_) ++ u)
          rw [show wsOf fw rw_ false = rw_ from rfl] at this
          rw [List.flatMap_cons, List.append_assoc]; exact this)
      63 (restT 0 zs) ((restT 0 zs).flatMap (tokBits rw_) ++ u) ⟨rfl, fun t ht => ⟨rest_okT zs 0 hzs t ht, hw2 t ht⟩⟩ (by rw [hgl])
    rw [hgl] at e1 e2
    simp only [Option.some.injEq] at e1
    subst e1
    obtain ⟨rfl, _⟩ := e3
    rw [e2]
    unfold joinG finG
    simp [toksZ]
/-- Blocks out of their own bits. -/
theorem decS_back (hpf1 : PF fw) (hpf2 : PF rw_) (u : List Bool) : ∀ (L : List (List Int)) (before : Int), (-2047 ≤ before ∧ before ≤ 2047) → (∀ r ∈ L, r.length = 64) → (∀ r ∈ L, inB (-2047) 2047 r = true) → AllW fw rw_ (toksB before L) →
    decS fw rw_ L.length before (segBits fw rw_ (toksB before L) ++ u) = (0, L, u)
  | [], before, _, _, _, _ => by rw [List.length_nil, decS]; rfl
  | r :: L, before, hb, hl, hin, hA => by
    have hlr := hl r List.mem_cons_self
    have hir := hin r List.mem_cons_self
    have hA1 : AllW fw rw_ (flagT (toksZ before (toL r))) := fun x hx => hA x (by simp only [toksB]; exact List.mem_append_left _ hx)
    have hA2 : AllW fw rw_ (toksB (r.headD 0) L) := fun x hx => hA x (by simp only [toksB]; exact List.mem_append_right _ hx)
    have hg := gB_back hpf1 hpf2 hb (toL_length r) (toL_in hlr hir) hA1 (segBits fw rw_ (toksB (r.headD 0) L) ++ u)
    have hh : -2047 ≤ r.headD 0 ∧ r.headD 0 ≤ 2047 := by
      match r, hlr, inB_mem.1 hir with
      | z :: r, _, h => exact h z List.mem_cons_self
    have ih := decS_back hpf1 hpf2 u L (r.headD 0) hh (fun x hx => hl x (List.mem_cons_of_mem _ hx)) (fun x hx => hin x (List.mem_cons_of_mem _ hx)) hA2
    simp only [toksB]
    rw [List.length_cons, segBits_append, List.append_assoc, decS, hg]
    simp only [if_true, Option.getD_some]
    rw [from_to hlr, ih]
    simp
/-- More bits behind what is read change nothing. -/
theorem step_more {first : Bool} (hpf : PF (wsOf fw rw_ first)) {b s : List Bool} {t : Int × Int × Int} (h : stepS fw rw_ first b = .inr (t, s)) (u : List Bool) : stepS fw rw_ first (b ++ u) = .inr (t, s ++ u) := by
  unfold stepS at h
  by_cases h1 : nextE (wsOf fw rw_ first) b = 0
  · obtain ⟨wd, hmem, e1, e2, h6⟩ := next_word h1
    have hfd : find1 (wsOf fw rw_ first) (b ++ u) = some (wd.1, wd.2.1) := hpf.find hmem (h6.trans (List.prefix_append _ _))
    have hE : nextE (wsOf fw rw_ first) (b ++ u) = 0 := by unfold nextE; rw [hfd]; rfl
    have hS : nextS (wsOf fw rw_ first) (b ++ u) = wd.1 := by unfold nextS; rw [hfd]; rfl
    have hL : nextL (wsOf fw rw_ first) (b ++ u) = wd.2.1 := by unfold nextL; rw [hfd]; rfl
    have hlen := h6.length_le
    rw [bitsN_length] at hlen
    rw [if_neg (by rw [h1]; decide), e1, e2] at h
    unfold stepS
    rw [hE, hS, hL, if_neg (by decide), List.drop_append_of_le_length hlen]
    split at h
    · cases h
    · rename_i h2
      rw [if_neg h2]
      split at h
      · cases h
      · rename_i h3
        rw [if_neg (by rw [List.length_append]; omega)]
        injection h with h
        injection h with h4 h5
        rw [List.take_append_of_le_length (by omega), List.drop_append_of_le_length (by omega), h4, h5]
  · rw [if_pos h1] at h; cases h
theorem decS_more (hpf1 : PF fw) (hpf2 : PF rw_) (u : List Bool) : ∀ (n : Nat) (before : Int) (b : List Bool), (decS fw rw_ n before b).1 = 0 → decS fw rw_ n before (b ++ u) = (0, (decS fw rw_ n before b).2.1, (decS fw rw_ n before b).2.2 ++ u)
  | 0, before, b, _ => by rw [decS, decS]
  | n + 1, before, b, h => by
    rw [decS] at h ⊢
    rw [decS]
    by_cases h1 : (gB (stepS fw rw_) before b).1 = 0
    · rw [if_pos h1] at h
      obtain ⟨s', u', e1, e2, rfl⟩ := gB_sim (step1 := stepS fw rw_) (step2 := stepS fw rw_) (R := fun s v => v = s ++ u) (fun _ _ _ h => stepS_ne h)
        (fun s v t s' hR hs => ⟨s' ++ u, by rw [hR]; exact step_more (first := false) hpf2 hs u, rfl⟩) (s := b) (u := b ++ u)
        (fun t s' hs => ⟨s' ++ u, step_more (first := true) hpf1 hs u, rfl⟩) h1
      simp only [e1, Option.getD_some] at h ⊢
      simp only [if_pos h1, e2, if_true, Option.getD_some]
      by_cases h2 : (decS fw rw_ n ((fromL (gB (stepS fw rw_) before b).2.1).headD 0) s').1 = 0
      · have ih := decS_more hpf1 hpf2 u n _ s' h2
        simp only [if_pos h2, ih, if_true]
      · rw [if_neg h2] at h; exact absurd h h2
    · rw [if_neg h1] at h; exact absurd h h1
end
end Go.Proofs.Ytddkhkpdbjjboaa

/- What was cut off is no encoding, in numbers. -/
namespace Go.Proofs.Ytddkhkpdbjjboaa
set_option linter.unusedVariables false
set_option linter.unusedSimpArgs false
set_option maxRecDepth 100000

theorem stuff1_head (x : Int) : ∃ l, stuff1 x = x :: l := by
  unfold stuff1; split
  · rename_i h; subst h; exact ⟨[0], rfl⟩
  · exact ⟨[], rfl⟩
theorem stuffB_front : ∀ (r raw : List Int), stuffB r <+: stuffB raw → r <+: raw
  | [], raw, _ => List.nil_prefix
  | x :: r, [], h => by
    rw [stuffB_cons] at h
    obtain ⟨l, hl⟩ := stuff1_head x
    rw [hl] at h
    have := h.length_le
    simp [stuffB] at this
  | x :: r, y :: raw, h => by
    rw [stuffB_cons, stuffB_cons] at h
    have hxy : x = y := by
      obtain ⟨l, hl⟩ := stuff1_head x
      obtain ⟨m, hm⟩ := stuff1_head y
      rw [hl, hm] at h
      simp only [List.cons_append] at h
      exact (List.cons_prefix_cons.1 h).1
    subst hxy
    rw [List.prefix_append_right_inj] at h
    exact List.cons_prefix_cons.2 ⟨rfl, stuffB_front r raw h⟩
/-- A single piece is all. -/
theorem splitR_single : ∀ (bs cur p : List Int), splitR bs cur = some ([p], []) → p = cur ++ bs
  | [], cur, p, h => by simp [splitR] at h; simp [h]
  | [x], cur, p, h => by
    by_cases hx : x = 255
    · subst hx; rw [splitR_end] at h; cases h
    · rw [splitR_other hx] at h
      simp [splitR] at h; exact h.symm
  | x :: y :: r, cur, p, h => by
    by_cases hx : x = 255
    · subst hx
      by_cases hy : y = 255
      · subst hy; rw [splitR_two] at h; cases h
      · by_cases hy0 : y = 0
        · subst hy0
          rw [splitR_pad] at h
          have := splitR_single r (cur ++ [255, 0]) p h
          rw [this]; simp
        · rw [splitR_mark hy hy0] at h
          obtain ⟨q', hq', he⟩ := Option.map_eq_some_iff.1 h
          simp at he
    · rw [splitR_other hx] at h
      have := splitR_single (y :: r) (cur ++ [x]) p h
      rw [this]; simp
theorem splitP_single {bs : List Int} (h0 : splitErr bs = 0) (h : (splitP bs).length = 1) : splitP bs = [bs] := by
  cases hs : splitR bs [] with
  | none => rw [(split_none hs).2.2] at h0; cases h0
  | some q =>
    obtain ⟨q1, q2⟩ := q
    have hc := splitP_count h0
    rw [(split_some hs).1, (split_some hs).2.1] at hc
    rw [(split_some hs).1] at h ⊢
    simp only at hc h ⊢
    have h2 : q2 = [] := List.length_eq_zero_iff.1 (by omega)
    subst h2
    match q1, h with
    | [p], _ =>
      have := splitR_single bs [] p hs
      rw [this]; simp
/-- What Decode's success says. -/
theorem eDec_parts {cs syms cs2 syms2 bs : List Int} {n : Int} (h : eDec cs syms cs2 syms2 bs n = 0) : checkErr cs syms = 0 ∧ checkErr cs2 syms2 = 0 ∧ (0 ≤ n ∧ n ≤ 400) ∧ plainErr bs = 0 ∧ (segD cs syms cs2 syms2 bs n.toNat).1 = 0 ∧ fillB (segD cs syms cs2 syms2 bs n.toNat).2.2 = true := by
  have h1 : checkErr cs syms = 0 := by
    refine Classical.byContradiction fun h1 => ?_
    unfold eDec eTs at h
    simp [h1] at h
  have h2 : checkErr cs2 syms2 = 0 := by
    refine Classical.byContradiction fun h2 => ?_
    unfold eDec eTs at h
    simp [h1, h2] at h
  have hT : eTs cs syms cs2 syms2 = 0 := by unfold eTs; rw [if_pos h1]; exact h2
  unfold eDec at h
  rw [if_neg (by rw [hT]; decide)] at h
  by_cases h3 : n < 0 ∨ 400 < n
  · rw [if_pos h3] at h; cases h
  · rw [if_neg h3] at h
    by_cases h4 : plainErr bs = 0
    · rw [if_neg (by rw [h4]; decide)] at h
      by_cases h5 : (segD cs syms cs2 syms2 bs n.toNat).1 = 0
      · rw [if_neg (by rw [h5]; decide)] at h
        by_cases h6 : fillB (segD cs syms cs2 syms2 bs n.toNat).2.2 = true
        · exact ⟨h1, h2, by omega, h4, h5, h6⟩
        · rw [if_neg h6] at h; cases h
      · rw [if_pos h5] at h; exact absurd h h5
    · rw [if_pos h4] at h; exact absurd h h4
theorem eEnc_all {cs syms cs2 syms2 : List Int} {L : List (List Int)} (h : eEnc cs syms cs2 syms2 L = 0) : AllW (outWords cs syms) (outWords cs2 syms2) (toksB 0 L) := by
  obtain ⟨h1, h2, h3⟩ := eEnc_none h
  rw [eEnc_end h1 h2 h3] at h
  refine Classical.byContradiction fun hn => ?_
  rw [if_neg hn] at h; cases h
/-- The bits of what was encoded. -/
theorem segF_bits {cs syms cs2 syms2 : List Int} {L : List (List Int)} (h : eEnc cs syms cs2 syms2 L = 0) : ∃ raw p, segF cs syms cs2 syms2 L = stuffB raw ∧ p < 8 ∧ unpack raw = segBits (outWords cs syms) (outWords cs2 syms2) (toksB 0 L) ++ List.replicate p true := by
  obtain ⟨p, hp, hu⟩ := unpack_packB (segBits (outWords cs syms) (outWords cs2 syms2) (toksB 0 L))
  exact ⟨_, p, if_pos h, hp, hu⟩
/-- Bytes that end too early are decoded to no blocks as many. -/
theorem cut_dec {cs syms cs2 syms2 : List Int} {L : List (List Int)} (hcs : cs.length = 16) (hcs2 : cs2.length = 16) (hl : ∀ r ∈ L, r.length = 64) (h : eEnc cs syms cs2 syms2 L = 0) {q : Nat} (hq : q < (segF cs syms cs2 syms2 L).length) :
    eDec cs syms cs2 syms2 ((segF cs syms cs2 syms2 L).take q) (L.length : Int) ≠ 0 := by
  intro hd
  obtain ⟨h1, h2, h3⟩ := eEnc_none h
  obtain ⟨h400, hin⟩ := eL_zero h3
  have hpf1 := words_pf2 hcs h1
  have hpf2 := words_pf2 hcs2 h2
  obtain ⟨raw, p, hraw, hp, hu⟩ := segF_bits h
  obtain ⟨_, _, _, d1, d2, d3⟩ := eDec_parts hd
  rw [hraw] at hq d1 d2 d3
  cases hpl : plainR ((stuffB raw).take q) with
  | none => rw [(plain_none hpl).2] at d1; cases d1
  | some r =>
    have hst := stuffB_plainR _ _ hpl
    have hfr : r <+: raw := stuffB_front r raw (by rw [hst]; exact List.take_prefix _ _)
    obtain ⟨d, rfl⟩ := hfr
    have hdn : d ≠ [] := by
      intro e
      subst e
      rw [List.append_nil] at hst hq
      have := congrArg List.length hst
      rw [List.length_take] at this; omega
    unfold segD at d2 d3
    rw [(plain_some hpl).1, Int.toNat_natCast] at d2 d3
    have hm := decS_more hpf1 hpf2 (unpack d) L.length 0 (unpack r) d2
    have hb := decS_back hpf1 hpf2 (List.replicate p true) L 0 (by omega) hl hin (eEnc_all h)
    rw [← hu, unpack_append, hm] at hb
    have h9 := congrArg (fun x => x.2.2.length) hb
    simp only [List.length_append, List.length_replicate, unpack_length] at h9
    have : 0 < d.length := List.length_pos_iff.2 hdn
    omega
theorem cut_bad {cs syms cs2 syms2 : List Int} {L : List (List Int)} {every : Int} (hcs : cs.length = 16) (hcs2 : cs2.length = 16) (hl : ∀ r ∈ L, r.length = 64) (h : eEnc cs syms cs2 syms2 L = 0) {q : Nat} (hq : q < (segF cs syms cs2 syms2 L).length) (hev : (L.length : Int) ≤ every) :
    eScD cs syms cs2 syms2 ((segF cs syms cs2 syms2 L).take q) (L.length : Int) every ≠ 0 := by
  intro hd
  have h0 : eHead cs syms cs2 syms2 ((segF cs syms cs2 syms2 L).take q) (L.length : Int) every = 0 := by
    refine Classical.byContradiction fun hn => ?_
    rw [eScD_head hn] at hd; exact hn hd
  obtain ⟨_, _, hsp⟩ := eHead_zero h0
  have hpn : partsN (L.length : Int).toNat every.toNat = [L.length] := by rw [Int.toNat_natCast]; exact partsN_one (by omega)
  by_cases hc : (partsN (L.length : Int).toNat every.toNat).length = (splitP ((segF cs syms cs2 syms2 L).take q)).length
  · cases hm : marksB (splitM ((segF cs syms cs2 syms2 L).take q)) with
    | false => rw [eScD_mark h0 hc hm] at hd; cases hd
    | true =>
      rw [eScD_segs h0 hc hm] at hd
      rw [hpn] at hc
      have hsg := splitP_single hsp (by simpa using hc.symm)
      unfold eSegs at hd
      rw [hpn, hsg, firstE_zero] at hd
      exact cut_dec hcs hcs2 hl h hq (hd _ (by simp))
  · rw [eScD_count h0 hc] at hd; cases hd
/-- One segment for all: the bytes are seg's. -/
theorem scan_one {cs syms cs2 syms2 : List Int} {L : List (List Int)} {every : Int} (h : eEnc cs syms cs2 syms2 L = 0) (hev : every = 0 ∨ (L.length : Int) ≤ every) (h1 : 0 ≤ every) (h100 : every ≤ 100) : eScan cs syms cs2 syms2 L every = 0 ∧ oScan cs syms cs2 syms2 L every = segF cs syms cs2 syms2 L := by
  obtain ⟨c1, c2, c3⟩ := eEnc_none h
  have hT : eTs cs syms cs2 syms2 = 0 := by unfold eTs; rw [if_pos c1]; exact c2
  have hpn : partsN L.length every.toNat = [L.length] := by
    rcases hev with rfl | hev
    · unfold partsN; rw [if_pos (.inl rfl)]
    · exact partsN_one (by omega)
  have hs : segs L every = [L] := by unfold segs; rw [hpn]; exact segsOf_one L
  have he : eScan cs syms cs2 syms2 L every = 0 := by
    rw [eScan_seg (by omega) hT c3, hs]
    simp [firstE, h]
  refine ⟨he, ?_⟩
  unfold oScan
  rw [if_pos he, hs]
  simp [joinM]
end Go.Proofs.Ytddkhkpdbjjboaa

/- Numbers with their places. No program is named here. -/
namespace Go.Proofs.Ytddkhkpdbjjboaa
set_option linter.unusedVariables false
set_option linter.unusedSimpArgs false
set_option maxRecDepth 100000

/-- The numbers with their places. -/
def enumI (zs : List Int) : List (Int × Int) := zs.zipIdx.map fun p => ((p.2 : Int), p.1)
theorem enumI_length (zs : List Int) : (enumI zs).length = zs.length := by simp [enumI]
theorem enumI_at {zs : List Int} {k : Nat} {x : Int} (h : zs[k]? = some x) : (enumI zs)[k]? = some ((k : Int), x) := by
  simp [enumI, List.getElem?_zipIdx, h]
end Go.Proofs.Ytddkhkpdbjjboaa

/- slices.Backward over numbers: what its iterator hands out. -/
namespace Go.Proofs.Ytddkhkpdbjjboaa
open Go.RowKit Go.Shelf
set_option linter.unusedVariables false
set_option linter.unusedSimpArgs false
set_option maxRecDepth 100000
attribute [local go_sem] Oper.semAt_some

/-- .. from the last one down to place r. -/
def backTo (zs : List Int) (r : Nat) : List (Int × Int) := ((enumI zs).drop r).reverse
theorem backTo_all {zs : List Int} {r : Nat} (h : zs.length ≤ r) : backTo zs r = [] := by
  unfold backTo; rw [List.drop_of_length_le (by rw [enumI_length]; exact h)]; rfl
theorem backTo_next {zs : List Int} {k : Nat} {x : Int} (h : zs[k]? = some x) : backTo zs k = backTo zs (k + 1) ++ [((k : Int), x)] := by
  unfold backTo
  obtain ⟨hk, e⟩ := List.getElem?_eq_some_iff.1 (enumI_at h)
  rw [List.drop_eq_getElem_cons hk, e, List.reverse_cons]
theorem backTo_length (zs : List Int) (r : Nat) : (backTo zs r).length = zs.length - r := by simp [backTo, enumI_length]

/-- What a round keeps: all that lay below n₀, and the iterator's box. -/
def KpB (n₀ Bs : Nat) (W W' : World) : Prop := Below n₀ W W' ∧ W'.heap[Bs]? = W.heap[Bs]?
theorem KpB.refl (n₀ Bs : Nat) (W : World) : KpB n₀ Bs W W := ⟨Below.refl _ _, rfl⟩
theorem KpB.trans {n₀ Bs : Nat} {A B C : World} (h : KpB n₀ Bs A B) (k : KpB n₀ Bs B C) : KpB n₀ Bs A C := ⟨h.1.trans k.1, k.2.trans h.2⟩
theorem KpB.put {n₀ Bs N : Nat} (hn : n₀ ≤ N) (hB : Bs < N) (W : World) (l : Nat) (o o' : Obj) (hl : N ≤ l) (ho : W.heap[l]? = some o) (h1 : o.isCells = false) (h2 : o.isWalk = false) : KpB n₀ Bs W (W.putObj l o') :=
  ⟨⟨rfl, rfl, rfl, by simp, fun k hk => World.putObj_heap_other (by omega)⟩, World.putObj_heap_other (by omega)⟩
theorem KpB.cell {n₀ Bs : Nat} {W W' : World} (h : KpB n₀ Bs W W') (i : Nat) : W'.cell? ⟨Bs, i, none⟩ = W.cell? ⟨Bs, i, none⟩ := by simp [World.cell?, h.2]

set_option maxRecDepth 100000 in
set_option maxHeartbeats 2000000 in
theorem back1_in (F : Fence) (n : Nat) (hf : F.fn 103) (hro : F.round = none) (hn : 1 ≤ n) (l Bs n₀ len cap : Nat) (A : Option Addr) (zs : List Int) (hlen : Hid (zs.length = len)) (hl : len ≤ 1048576) (J Jx : List (Int × Int) → World → Prop)
    (hY : ∀ pre x W, J pre W → pre.length < len → YieldAt F (n - 1) Try.prog l #[.int .i64 x.1, .int .i64 x.2] W fun e W' =>
      (e = .returned (.bool true) ∧ J (pre ++ [x]) W' ∧ KpB n₀ Bs W W') ∨ (e = .returned (.bool false) ∧ Jx (pre ++ [x]) W'))
    (W : World) (hBs : W.cell? ⟨Bs, 0, none⟩ = some (.slice A len cap)) (hs : Seen W n₀ A (ints .i64 zs)) (h0 : J [] W) :
    CallsIn F n Try.prog 103 #[.func (.yield l) #[] #[], .pointer (some ⟨Bs, 0, none⟩)] W fun e W' => (∃ v, e = .returned v) ∧
      ((∃ ys, ys = backTo zs 0 ∧ J ys W') ∨ (∃ pre, (∃ r, pre = backTo zs r) ∧ Jx pre W')) := by
  have hY' := veil hY; clear hY
  refine callsIn_of_wp Try.func103 rfl hf ?_ hro
  simp only [Try.ntmps103, List.size_toArray, List.length_cons, List.length_nil, Nat.reduceAdd, Nat.reduceSub, Array.replicate_succ, Array.replicate_zero, List.push_toArray, List.append_toArray, List.nil_append, List.cons_append]
  gi_wp2
  gi_loopw [3] (fun i wr => (i = .int .i64 ((len : Int) - 1) ∧ len = 0 ∧ J (backTo zs 0) wr) ∨ (∃ q : Nat, q < len ∧ i = .int .i64 (q : Int) ∧ J (backTo zs (q + 1)) wr ∧ KpB n₀ Bs W wr) ∨ (i = .int .i64 (-1) ∧ J (backTo zs 0) wr))
    (fun i _ => (intOf i + 1).toNat)
  case atStart =>
    rcases Nat.eq_zero_or_pos len with h | h
    · refine .inl ⟨rfl, h, ?_⟩
      rw [backTo_all (by rw [hlen.out, h]; omega)]; exact h0
    · refine .inr (.inl ⟨len - 1, by omega, by congr 1; omega, ?_, KpB.refl _ _ _⟩)
      rw [backTo_all (by rw [hlen.out]; omega)]; exact h0
  case round =>
    rcases hrel with ⟨rfl, hz, hJ⟩ | ⟨q, hq, rfl, hJ, hnx⟩ | ⟨rfl, hJ⟩
    · subst hz
      gi_wp2
      go_end0
      exact ⟨⟨_, rfl⟩, .inl ⟨_, rfl, hJ⟩⟩
    · obtain ⟨b, off, x, rfl, hb, hx, hc⟩ := hs.int (k := q) (by rw [hlen.out]; exact hq)
      have hcx := (hnx.1.cell (p := ⟨b, off + q, none⟩) hb).trans hc
      have hBx := (hnx.cell 0).trans hBs
      obtain ⟨fn, tmps, assign, body, hy, hR⟩ := hY'.out _ ((q : Int), x) wr hJ (by rw [backTo_length, hlen.out]; omega)
      dsimp only at hy
      have Hn := veil (backTo_next hx)
      clear hx hc
      have hqz : (q : Int) < (len : Int) := by omega
      gi_wp2
      refine hR.mono ?_
      rintro e W3 (⟨rfl, hJ3, hk3⟩ | ⟨rfl, hJx3⟩)
      · rw [← Hn.out] at hJ3
        gi_wp2
        go_roundw
        case rel =>
          rcases Nat.eq_zero_or_pos q with h | h
          · subst h; exact .inr (.inr ⟨rfl, hJ3⟩)
          · refine .inr (.inl ⟨q - 1, by omega, by congr 1; omega, ?_, hnx.trans hk3⟩)
            rw [show q - 1 + 1 = q by omega]; exact hJ3
        case measure => simp [intOf]
      · rw [← Hn.out] at hJx3
        gi_wp2
        refine bodyPost_ret (results_none rfl _ _ _) rfl ?_
        exact ⟨⟨_, rfl⟩, .inr ⟨_, ⟨q, rfl⟩, hJx3⟩⟩
    · gi_wp2
      go_end0
      exact ⟨⟨_, rfl⟩, .inl ⟨_, rfl, hJ⟩⟩
set_option maxHeartbeats 1000000 in
theorem back_in (F : Fence) (n : Nat) (hf : F.fn 84) (hro : F.round = none) (a : Option Addr) (len cap : Nat) (w : World) :
    CallsIn F n Try.prog 84 #[.slice a len cap] w fun e w' => e = .returned (.func (.func 103) #[] #[.pointer (some ⟨w.heap.size, 0, none⟩)]) ∧ w' = w.alloc (.cells #[.slice a len cap] 23) := by
  refine callsIn_of_wp Try.func84 rfl hf ?_ hro
  simp only [Try.ntmps84, List.size_toArray, List.length_cons, List.length_nil, Nat.reduceAdd, Nat.reduceSub, Array.replicate_succ, Array.replicate_zero, List.push_toArray, List.append_toArray, List.nil_append, List.cons_append]
  gi_wp2
  go_ret
  exact ⟨rfl, rfl⟩
theorem back_stops (F : Fence) (n : Nat) (hf : F.fn 103) (hro : F.round = none) (hn : 1 ≤ n) (Bs n₀ cap : Nat) (A : Option Addr) (zs : List Int) (hl : zs.length ≤ 1048576) (w : World) (hBs : Bs < w.heap.size) (hn₀ : n₀ ≤ w.heap.size)
    (hc : w.cell? ⟨Bs, 0, none⟩ = some (.slice A zs.length cap)) (hs : Seen w n₀ A (ints .i64 zs)) :
    SeqStopsK F n Try.prog 103 #[.pointer (some ⟨Bs, 0, none⟩)] (fun x : Int × Int => #[Value.int .i64 x.1, Value.int .i64 x.2]) (KpB n₀ Bs) (fun ys => ys = backTo zs 0) (fun pre => ∃ r, pre = backTo zs r) zs.length w := fun l J Jx W hW _ _ hY h0 =>
  back1_in F n hf hro hn l Bs n₀ zs.length cap A zs rfl hl J Jx hY W ((hW.cell (p := ⟨Bs, 0, none⟩) hBs).trans hc) (hs.below hW hn₀) h0
end Go.Proofs.Ytddkhkpdbjjboaa
