/- Texts shared by the claims of this seat, in one. -/
import Derived.Test.YtddkhkpdbjjboaaBd11
import Derived.Test.YtddkhkpdbjjboaaBd9
import Derived.Test.YtddkhkpdbjjboaaBd1
import Derived.Laws.CopyOwn
import Derived.Test.YtddkhkpdbjjboaaBd8
import Derived.Test.YtddkhkpdbjjboaaBd4
import Derived.Laws.MakeOwn
import Derived.Deep.DeepCutAuto
import Derived.Test.YtddkhkpdbjjboaaBd6
import Derived.Test.YtddkhkpdbjjboaaBd3
import Derived.Test.YtddkhkpdbjjboaaBd5
/- Blocks out of bits: the bits of their tokens are what was read. -/
namespace Go.Proofs.Ytddkhkpdbjjboaa
set_option linter.unusedVariables false
set_option linter.unusedSimpArgs false
set_option maxRecDepth 100000

theorem symF_mine {ws : List (Int × Nat × Nat)} (hnd : (ws.map (·.1)).Nodup) {t : Int × Nat × Nat} (ht : t ∈ ws) : symF ws t.1 = some (fi t) := by
  induction ws using snoc_ind with
  | h0 => simp at ht
  | h1 ws u ih =>
    rw [List.map_append, List.nodup_append] at hnd
    rw [symF_snoc]
    unfold upd
    by_cases e : t.1 = u.1
    · rw [if_pos e]
      rcases List.mem_append.1 ht with h | h
      · exact absurd e (hnd.2.2 t.1 (List.mem_map_of_mem h) u.1 (by simp))
      · simp at h; rw [h]
    · rw [if_neg e]
      rcases List.mem_append.1 ht with h | h
      · exact ih hnd.1 h
      · simp at h; rw [h] at e; exact absurd rfl e
theorem next_word {ws : List (Int × Nat × Nat)} {b : List Bool} (h : nextE ws b = 0) : ∃ t ∈ ws, nextS ws b = t.1 ∧ nextL ws b = t.2.1 ∧ bitsN t.2.1 t.2.2 <+: b := by
  unfold nextE at h
  split at h
  · rename_i h1
    obtain ⟨⟨s, n⟩, hp⟩ := Option.isSome_iff_exists.1 h1
    obtain ⟨t, ht, e1, e2, h2⟩ := find1_mem hp
    exact ⟨t, ht, by unfold nextS; rw [hp, e1]; rfl, by unfold nextL; rw [hp, e2]; rfl, h2⟩
  · split at h <;> cases h
/-- Words of symbols that are all different. -/
def Own1 (ws : List (Int × Nat × Nat)) : Prop := (ws.map (·.1)).Nodup
theorem step_bits {fw rw_ : List (Int × Nat × Nat)} {first : Bool} (hnd : Own1 (wsOf fw rw_ first)) {b s : List Bool} {t : Int × Int × Int} (h : stepS fw rw_ first b = .inr (t, s)) :
    b = tokBits (wsOf fw rw_ first) t ++ s ∧ (symF (wsOf fw rw_ first) t.1).isSome = true := by
  unfold stepS at h
  by_cases h1 : nextE (wsOf fw rw_ first) b = 0
  · rw [if_neg (by rw [h1]; decide)] at h
    split at h
    · cases h
    · rename_i h2
      split at h
      · cases h
      · rename_i h3
        injection h with h
        injection h with h4 h5
        obtain ⟨u, hu, e1, e2, h6⟩ := next_word h1
        have hs := symF_mine hnd hu
        have hb := List.prefix_iff_eq_take.1 h6
        rw [bitsN_length] at hb
        rw [e1, e2] at h3 h4 h5
        generalize hW : widS first u.1 = W at *
        subst h4 h5
        refine ⟨?_, by rw [hs]; rfl⟩
        unfold tokBits symBits
        simp only [hs, Option.getD_some, fi, Int.toNat_natCast]
        have h7 := bitsN_valB (((b.drop u.2.1).take W.toNat))
        rw [show ((b.drop u.2.1).take W.toNat).length = W.toNat by rw [List.length_take]; omega] at h7
        rw [h7, hb, List.append_assoc, List.take_append_drop, List.take_append_drop]
  · rw [if_pos h1] at h; cases h
theorem rest_bits {fw rw_ : List (Int × Nat × Nat)} (hnd : Own1 rw_) : ∀ (k : Nat) (b : List Bool), (gR (stepS fw rw_) k b).1 = 0 → ∃ s', (gR (stepS fw rw_) k b).2.2.2 = some s' ∧
    b = ((gR (stepS fw rw_) k b).2.2.1.flatMap (tokBits rw_)) ++ s' ∧ ∀ t ∈ (gR (stepS fw rw_) k b).2.2.1, (symF rw_ t.1).isSome = true := by
  intro k
  induction k using Nat.strongRecOn with
  | _ k ih =>
    intro b h
    cases k with
    | zero => rw [gR]; exact ⟨b, rfl, rfl, by simp⟩
    | succ k =>
      rw [gR] at h ⊢
      cases hst : stepS fw rw_ false b with
      | inl e => rw [hst] at h; exact absurd h (stepS_ne hst)
      | inr q =>
        obtain ⟨t, s2⟩ := q
        obtain ⟨g1, g2⟩ := step_bits (first := false) hnd hst
        rw [show wsOf fw rw_ false = rw_ from rfl] at g1 g2
        rw [hst] at h
        simp only [] at h ⊢
        by_cases h1 : okT t = true
        · rw [if_pos h1] at h ⊢
          by_cases h2 : t.1 = 0
          · rw [if_pos h2]
            exact ⟨s2, rfl, by simp only [List.flatMap_cons, List.flatMap_nil, List.append_nil]; exact g1, fun u hu => by rw [List.mem_singleton.1 hu]; exact g2⟩
          · rw [if_neg h2] at h ⊢
            by_cases h3 : k + 1 < farT t
            · rw [if_pos h3] at h; simp at h
            · rw [if_neg h3] at h ⊢
              have hp : 0 < farT t := by unfold farT; omega
              by_cases h4 : (gR (stepS fw rw_) (k + 1 - farT t) s2).1 = 0
              · obtain ⟨s', e1, e2, e3⟩ := ih (k + 1 - farT t) (by omega) s2 h4
                rw [if_pos h4]
                refine ⟨s', e1, ?_, fun u hu => ?_⟩
                · simp only [List.flatMap_cons, List.append_assoc]
                  rw [← e2]; exact g1
                · rcases List.mem_cons.1 hu with rfl | hu
                  · exact g2
                  · exact e3 u hu
              · rw [if_neg h4] at h; exact absurd h h4
        · rw [if_neg h1] at h; simp at h
theorem flag_bits (fw rw_ : List (Int × Nat × Nat)) (t : Int × Int × Int) (l : List (Int × Int × Int)) : segBits fw rw_ (flagT (t :: l)) = tokBits fw t ++ l.flatMap (tokBits rw_) := by
  unfold segBits flagT
  simp [List.flatMap_cons, wsOf, List.flatMap_map]
theorem flag_all {fw rw_ : List (Int × Nat × Nat)} {t : Int × Int × Int} {l : List (Int × Int × Int)} (h1 : (symF fw t.1).isSome = true) (h2 : ∀ u ∈ l, (symF rw_ u.1).isSome = true) : AllW fw rw_ (flagT (t :: l)) := by
  intro x hx
  unfold flagT at hx
  rcases List.mem_cons.1 hx with rfl | hx
  · exact h1
  · obtain ⟨u, hu, rfl⟩ := List.mem_map.1 hx
    exact h2 u hu
theorem blk_bits {fw rw_ : List (Int × Nat × Nat)} (hnd1 : Own1 fw) (hnd2 : Own1 rw_) {before : Int} {b : List Bool} (h : (gB (stepS fw rw_) before b).1 = 0) : ∃ s', (gB (stepS fw rw_) before b).2.2.2 = some s' ∧
    b = segBits fw rw_ (flagT (gB (stepS fw rw_) before b).2.2.1) ++ s' ∧ AllW fw rw_ (flagT (gB (stepS fw rw_) before b).2.2.1) := by
  cases hst : stepS fw rw_ true b with
  | inl e => rw [gB_none hst] at h; exact absurd h (stepS_ne hst)
  | inr q =>
    obtain ⟨t, s2⟩ := q
    obtain ⟨g1, g2⟩ := step_bits (first := true) hnd1 hst
    rw [show wsOf fw rw_ true = fw from rfl] at g1 g2
    by_cases hf : firstT before t
    · rw [gB_go hst hf] at h ⊢
      by_cases h4 : (gR (stepS fw rw_) 63 s2).1 = 0
      · obtain ⟨s', e1, e2, e3⟩ := rest_bits (fw := fw) hnd2 63 s2 h4
        unfold joinG at h ⊢
        rw [if_pos h4] at h ⊢
        unfold finG at h ⊢
        rw [if_pos rfl] at h ⊢
        by_cases h5 : toksZ before ([before + numT t] ++ (gR (stepS fw rw_) 63 s2).2.1) = [t] ++ (gR (stepS fw rw_) 63 s2).2.2.1
        · rw [if_pos h5]
          refine ⟨s', e1, ?_, ?_⟩
          · show b = segBits fw rw_ (flagT ([t] ++ (gR (stepS fw rw_) 63 s2).2.2.1)) ++ s'
            rw [List.singleton_append, flag_bits, List.append_assoc, ← e2]; exact g1
          · show AllW fw rw_ (flagT ([t] ++ (gR (stepS fw rw_) 63 s2).2.2.1))
            rw [List.singleton_append]; exact flag_all g2 e3
        · rw [if_neg h5] at h; simp at h
      · unfold joinG at h
        rw [if_neg h4] at h
        unfold finG at h
        rw [if_neg h4] at h
        exact absurd h h4
    · rw [gB_bad hst hf] at h; simp at h
theorem decS_bits {fw rw_ : List (Int × Nat × Nat)} (hnd1 : Own1 fw) (hnd2 : Own1 rw_) : ∀ (n : Nat) (before : Int) (b : List Bool), (decS fw rw_ n before b).1 = 0 →
    b = segBits fw rw_ (toksB before (decS fw rw_ n before b).2.1) ++ (decS fw rw_ n before b).2.2 ∧ AllW fw rw_ (toksB before (decS fw rw_ n before b).2.1) ∧ (decS fw rw_ n before b).2.1.length = n ∧ ∀ r ∈ (decS fw rw_ n before b).2.1, r.length = 64 ∧ inB (-2047) 2047 r = true
  | 0, before, b, _ => by
    rw [decS]
    exact ⟨rfl, fun x hx => by simp [toksB] at hx, rfl, by simp⟩
  | n + 1, before, b, h => by
    rw [decS] at h ⊢
    by_cases h1 : (gB (stepS fw rw_) before b).1 = 0
    · rw [if_pos h1] at h ⊢
      obtain ⟨s', e1, e2, e3⟩ := blk_bits hnd1 hnd2 h1
      obtain ⟨g1, g2, _, g4⟩ := gB_in (fun _ _ _ h => stepS_ne h) h1
      simp only [e1, Option.getD_some] at h ⊢
      by_cases h2 : (decS fw rw_ n ((fromL (gB (stepS fw rw_) before b).2.1).headD 0) s').1 = 0
      · rw [if_pos h2]
        obtain ⟨i1, i2, i3, i4⟩ := decS_bits hnd1 hnd2 n _ s' h2
        have et : toksZ before (toL (fromL (gB (stepS fw rw_) before b).2.1)) = (gB (stepS fw rw_) before b).2.2.1 := by rw [to_from g1]; exact g4
        refine ⟨?_, ?_, ?_, fun r hr => ?_⟩
        · simp only [toksB]
          rw [et, segBits_append, List.append_assoc, ← i1]; exact e2
        · simp only [toksB]
          rw [et]; exact e3.append i2
        · simp only [List.length_cons]; rw [i3]
        · rcases List.mem_cons.1 hr with rfl | hr
          · exact ⟨fromL_length _, inB_from g1 g2⟩
          · exact i4 r hr
      · rw [if_neg h2] at h; exact absurd h h2
    · rw [if_neg h1] at h; exact absurd h h1
theorem own1_of {cs syms : List Int} (h : checkErr cs syms = 0) : Own1 (outWords cs syms) := by
  obtain ⟨l, hf, hw, hll⟩ := fine_of h
  unfold Own1
  rw [hw, mkWords_fst hll]; exact hf.nodup
theorem all_true : ∀ {s : List Bool}, s.all id = true → s = List.replicate s.length true
  | [], _ => rfl
  | x :: s, h => by
    simp only [List.all_cons, Bool.and_eq_true, id] at h
    rw [h.1, List.length_cons, List.replicate_succ, ← all_true h.2]
/-- What was decoded is encoded as just these bytes. -/
theorem again_ok {cs syms cs2 syms2 bs : List Int} {n : Int} (hcs : cs.length = 16) (hcs2 : cs2.length = 16) (hby : Bytes bs) (h : eDec cs syms cs2 syms2 bs n = 0) :
    (∀ r ∈ oDec cs syms cs2 syms2 bs n, r.length = 64) ∧ ((oDec cs syms cs2 syms2 bs n).length : Int) = n ∧ n ≤ 400 ∧ eEnc cs syms cs2 syms2 (oDec cs syms cs2 syms2 bs n) = 0 ∧ ∀ out, SegOut cs syms cs2 syms2 (oDec cs syms cs2 syms2 bs n) out → out = bs := by
  have ho : oDec cs syms cs2 syms2 bs n = (segD cs syms cs2 syms2 bs n.toNat).2.1 := if_pos h
  have h1 : checkErr cs syms = 0 := by
    refine Classical.byContradiction fun h1 => ?_
    unfold eDec eTs at h
    simp [h1] at h
  have h2 : checkErr cs2 syms2 = 0 := by
    refine Classical.byContradiction fun h2 => ?_
    unfold eDec eTs at h
    simp [h1, h2] at h
  have hT : eTs cs syms cs2 syms2 = 0 := by unfold eTs; rw [if_pos h1]; exact h2
  unfold eDec at h
  rw [if_neg (by rw [hT]; decide)] at h
  by_cases h3 : n < 0 ∨ 400 < n
  · rw [if_pos h3] at h; cases h
  · rw [if_neg h3] at h
    by_cases h4 : plainErr bs = 0
    · rw [if_neg (by rw [h4]; decide)] at h
      by_cases h5 : (segD cs syms cs2 syms2 bs n.toNat).1 = 0
      · rw [if_neg (by rw [h5]; decide)] at h
        by_cases h6 : fillB (segD cs syms cs2 syms2 bs n.toNat).2.2 = true
        · obtain ⟨b1, b2, b3, b4⟩ := decS_bits (own1_of h1) (own1_of h2) n.toNat 0 (unpack (plainOut bs)) h5
          rw [ho]
          unfold segD at h6 ⊢
          generalize hO : (decS (outWords cs syms) (outWords cs2 syms2) n.toNat 0 (unpack (plainOut bs))).2.1 = O at *
          generalize hS : (decS (outWords cs syms) (outWords cs2 syms2) n.toNat 0 (unpack (plainOut bs))).2.2 = s at *
          have hE : eL O = 0 := eL_ok (by omega) fun r hr => (b4 r hr).2
          have hen : eEnc cs syms cs2 syms2 O = 0 := by rw [eEnc_end h1 h2 hE, if_pos b2]
          refine ⟨fun r hr => (b4 r hr).1, by omega, by omega, hen, fun out hout => ?_⟩
          obtain ⟨raw, rfl, hrb, p, hp, hu⟩ := hout.2 hen
          unfold fillB at h6
          simp only [Bool.and_eq_true, decide_eq_true_eq] at h6
          have hs := all_true h6.2
          cases hpl : plainR bs with
          | none => rw [(plain_none hpl).2] at h4; cases h4
          | some q =>
            rw [(plain_some hpl).1] at b1
            have hqb : Bytes q := by
              exact fun x hx => hby x (plainR_mem bs q hpl x hx)
            have l1 := congrArg List.length b1
            have l2 := congrArg List.length hu
            rw [unpack_length, List.length_append] at l1 l2
            rw [List.length_replicate] at l2
            have hps : p = s.length := by omega
            rw [hps, ← hs, ← b1] at hu
            rw [unpack_inj hrb hqb hu]
            exact stuffB_plainR bs q hpl
        · rw [if_neg h6] at h; cases h
      · rw [if_pos h5] at h; exact absurd h h5
    · rw [if_pos h4] at h; exact absurd h h4
end Go.Proofs.Ytddkhkpdbjjboaa

/- Segments decoded, in numbers: pieces, marks, errors. -/
namespace Go.Proofs.Ytddkhkpdbjjboaa
set_option linter.unusedVariables false
set_option linter.unusedSimpArgs false
set_option maxRecDepth 100000

theorem zip_at {α β : Type} {a : List α} {b : List β} {k : Nat} {x : α} {y : β} (ha : a[k]? = some x) (hb : b[k]? = some y) : (a.zip b)[k]? = some (x, y) := by
  rw [List.getElem?_zip_eq_some]; exact ⟨ha, hb⟩
/-- What pieces and marks are made of. -/
theorem splitR_in : ∀ (bs cur : List Int) (q : List (List Int) × List Int), splitR bs cur = some q → (∀ p ∈ q.1, p.length ≤ cur.length + bs.length ∧ ∀ x ∈ p, x ∈ cur ∨ x ∈ bs) ∧ (∀ y ∈ q.2, y ∈ bs) ∧ q.1.length = q.2.length + 1 ∧ q.2.length ≤ bs.length
  | [], cur, q, h => by
    simp [splitR] at h; subst h
    simp
  | [x], cur, q, h => by
    by_cases hx : x = 255
    · subst hx; rw [splitR_end] at h; cases h
    · rw [splitR_other hx] at h
      simp [splitR] at h; subst h
      simp
  | x :: y :: r, cur, q, h => by
    by_cases hx : x = 255
    · subst hx
      by_cases hy : y = 255
      · subst hy; rw [splitR_two] at h; cases h
      · by_cases hy0 : y = 0
        · subst hy0
          rw [splitR_pad] at h
          obtain ⟨h1, h2, h3, h4⟩ := splitR_in r (cur ++ [255, 0]) q h
          refine ⟨fun p hp => ?_, fun z hz => ?_, h3, by simp; omega⟩
          · obtain ⟨g1, g2⟩ := h1 p hp
            refine ⟨by simp at g1 ⊢; omega, fun z hz => ?_⟩
            rcases g2 z hz with g | g
            · rcases List.mem_append.1 g with g | g
              · exact .inl g
              · exact .inr (by simp at g ⊢; rcases g with g | g <;> simp [g])
            · exact .inr (by simp [g])
          · have := h2 z hz; simp [this]
        · rw [splitR_mark hy hy0] at h
          obtain ⟨q', hq', rfl⟩ := Option.map_eq_some_iff.1 h
          obtain ⟨h1, h2, h3, h4⟩ := splitR_in r [] q' hq'
          refine ⟨fun p hp => ?_, fun z hz => ?_, by simp [h3], by simp; omega⟩
          · rcases List.mem_cons.1 hp with rfl | hp
            · exact ⟨by omega, fun z hz => .inl hz⟩
            · obtain ⟨g1, g2⟩ := h1 p hp
              refine ⟨by simp at g1 ⊢; omega, fun z hz => ?_⟩
              rcases g2 z hz with g | g
              · simp at g
              · exact .inr (by simp [g])
          · rcases List.mem_cons.1 hz with rfl | hz
            · simp
            · have := h2 z hz; simp [this]
    · rw [splitR_other hx] at h
      obtain ⟨h1, h2, h3, h4⟩ := splitR_in (y :: r) (cur ++ [x]) q h
      refine ⟨fun p hp => ?_, fun z hz => ?_, h3, by simp at h4 ⊢; omega⟩
      · obtain ⟨g1, g2⟩ := h1 p hp
        refine ⟨by simp at g1 ⊢; omega, fun z hz => ?_⟩
        rcases g2 z hz with g | g
        · rcases List.mem_append.1 g with g | g
          · exact .inl g
          · exact .inr (by simp at g; simp [g])
        · exact .inr (List.mem_cons_of_mem _ g)
      · exact List.mem_cons_of_mem _ (h2 z hz)
theorem splitP_in {bs p : List Int} (h : p ∈ splitP bs) : p.length ≤ bs.length ∧ ∀ x ∈ p, x ∈ bs := by
  cases hs : splitR bs [] with
  | none => rw [(split_none hs).1] at h; simp at h
  | some q =>
    rw [(split_some hs).1] at h
    obtain ⟨g1, g2⟩ := (splitR_in bs [] q hs).1 p h
    refine ⟨by simpa using g1, fun x hx => ?_⟩
    rcases g2 x hx with g | g
    · simp at g
    · exact g
theorem splitP_bytes {bs p : List Int} (hb : Bytes bs) (h : p ∈ splitP bs) : Bytes p := fun x hx => hb x ((splitP_in h).2 x hx)
theorem splitP_count {bs : List Int} (h : splitErr bs = 0) : (splitP bs).length = (splitM bs).length + 1 ∧ (splitM bs).length ≤ bs.length := by
  cases hs : splitR bs [] with
  | none => rw [(split_none hs).2.2] at h; cases h
  | some q =>
    rw [(split_some hs).1, (split_some hs).2.1]
    exact ⟨(splitR_in bs [] q hs).2.2.1, (splitR_in bs [] q hs).2.2.2⟩
theorem marksB_iff (ms : List Int) : marksB ms = true ↔ ∀ (j : Nat) (m : Int), ms[j]? = some m → m = 208 + ((j % 8 : Nat) : Int) := by
  unfold marksB
  rw [List.all_eq_true]
  constructor
  · intro h j m hm
    have := h (m, j) (by rw [List.mem_zipIdx_iff_getElem?]; exact hm)
    simpa using this
  · intro h x hx
    obtain ⟨m, j⟩ := x
    rw [List.mem_zipIdx_iff_getElem?] at hx
    simpa using h j m hx
theorem marksB_bad {ms : List Int} {j : Nat} {m : Int} (hm : ms[j]? = some m) (h : m ≠ 208 + ((j % 8 : Nat) : Int)) : marksB ms = false := by
  cases hb : marksB ms with
  | false => rfl
  | true => exact absurd ((marksB_iff ms).1 hb j m hm) h
section
variable {cs syms cs2 syms2 bs : List Int} {n every : Int}
theorem eScD_head (h : eHead cs syms cs2 syms2 bs n every ≠ 0) : eScD cs syms cs2 syms2 bs n every = eHead cs syms cs2 syms2 bs n every := if_pos h
theorem eScD_count (h : eHead cs syms cs2 syms2 bs n every = 0) (h2 : (partsN n.toNat every.toNat).length ≠ (splitP bs).length) : eScD cs syms cs2 syms2 bs n every = 4 := by unfold eScD; rw [if_neg (by rw [h]; decide), if_pos h2]
theorem eScD_mark (h : eHead cs syms cs2 syms2 bs n every = 0) (h2 : (partsN n.toNat every.toNat).length = (splitP bs).length) (h3 : marksB (splitM bs) = false) : eScD cs syms cs2 syms2 bs n every = 6 := by unfold eScD; rw [if_neg (by rw [h]; decide), if_neg (by rw [h2]; simp), if_pos h3]
theorem eScD_segs (h : eHead cs syms cs2 syms2 bs n every = 0) (h2 : (partsN n.toNat every.toNat).length = (splitP bs).length) (h3 : marksB (splitM bs) = true) : eScD cs syms cs2 syms2 bs n every = eSegs cs syms cs2 syms2 bs n every := by unfold eScD; rw [if_neg (by rw [h]; decide), if_neg (by rw [h2]; simp), if_neg (by rw [h3]; decide)]
theorem oScD_err (h : eScD cs syms cs2 syms2 bs n every ≠ 0) : oScD cs syms cs2 syms2 bs n every = [] := if_neg h
theorem eHead_zero (h : eHead cs syms cs2 syms2 bs n every = 0) : ¬ (every < 0 ∨ 100 < every ∨ n < 0 ∨ 400 < n) ∧ eTs cs syms cs2 syms2 = 0 ∧ splitErr bs = 0 := by
  unfold eHead at h
  by_cases h1 : every < 0 ∨ 100 < every ∨ n < 0 ∨ 400 < n
  · rw [if_pos h1] at h; cases h
  · rw [if_neg h1] at h
    by_cases h2 : eTs cs syms cs2 syms2 = 0
    · rw [if_neg (by rw [h2]; decide)] at h; exact ⟨h1, h2, h⟩
    · rw [if_pos h2] at h; exact absurd h h2
/-- What a piece is decoded to: its blocks have 64 numbers each, and there are so many. -/
theorem oDec_rows (hcs : cs.length = 16) (hcs2 : cs2.length = 16) {p : List Int} (hb : Bytes p) (m : Int) : (∀ r ∈ oDec cs syms cs2 syms2 p m, r.length = 64) ∧ (eDec cs syms cs2 syms2 p m = 0 → ((oDec cs syms cs2 syms2 p m).length : Int) = m) := by
  by_cases h : eDec cs syms cs2 syms2 p m = 0
  · obtain ⟨h1, h2, _⟩ := again_ok hcs hcs2 hb h
    exact ⟨h1, fun _ => h2⟩
  · rw [oDec_err h]; exact ⟨by simp, fun h2 => absurd h2 h⟩
end
end Go.Proofs.Ytddkhkpdbjjboaa

/- What Decode and Mend ask first, in numbers. -/
namespace Go.Proofs.Ytddkhkpdbjjboaa
open Go.RowKit
set_option linter.unusedVariables false
set_option linter.unusedSimpArgs false
set_option maxRecDepth 100000

section
variable {cs syms cs2 syms2 bs : List Int} {n every : Int}
theorem eHead_arg (h : every < 0 ∨ 100 < every ∨ n < 0 ∨ 400 < n) : eHead cs syms cs2 syms2 bs n every = 1 := if_pos h
theorem eHead_tab (h : ¬ (every < 0 ∨ 100 < every ∨ n < 0 ∨ 400 < n)) (h2 : eTs cs syms cs2 syms2 ≠ 0) : eHead cs syms cs2 syms2 bs n every = eTs cs syms cs2 syms2 := by unfold eHead; rw [if_neg h, if_pos h2]
theorem eHead_split (h : ¬ (every < 0 ∨ 100 < every ∨ n < 0 ∨ 400 < n)) (h2 : eTs cs syms cs2 syms2 = 0) : eHead cs syms cs2 syms2 bs n every = splitErr bs := by unfold eHead; rw [if_neg h, if_neg (by rw [h2]; decide)]
end
section
variable (cs syms cs2 syms2 bs : List Int) (n every : Int)
/-- The pieces and the marks behind what Decode and Mend ask first. -/
def headP : List (List Int) := if eHead cs syms cs2 syms2 bs n every = 0 then splitP bs else []
def headM : List Int := if eHead cs syms cs2 syms2 bs n every = 0 then splitM bs else []
end
theorem head_split {cs syms cs2 syms2 bs : List Int} {n every : Int} (h : ¬ (every < 0 ∨ 100 < every ∨ n < 0 ∨ 400 < n)) (h2 : eTs cs syms cs2 syms2 = 0) : headP cs syms cs2 syms2 bs n every = splitP bs ∧ headM cs syms cs2 syms2 bs n every = splitM bs := by
  unfold headP headM
  rw [eHead_split h h2]
  cases hs : splitR bs [] with
  | none => obtain ⟨h1, h2, h3⟩ := split_none hs; rw [h1, h2]; simp
  | some q => obtain ⟨_, _, h3⟩ := split_some hs; rw [h3]; simp
end Go.Proofs.Ytddkhkpdbjjboaa

/- copy of blocks into a block of memory that is known. -/
namespace Go.Proofs.Ytddkhkpdbjjboaa
open Go.RowKit
set_option linter.unusedVariables false
set_option linter.unusedSimpArgs false
set_option maxRecDepth 100000

end Go.Proofs.Ytddkhkpdbjjboaa

/- Mend in numbers, step by step; blocks of zeros made. -/
namespace Go.Proofs.Ytddkhkpdbjjboaa
open Go.RowKit
set_option linter.unusedVariables false
set_option linter.unusedSimpArgs false
set_option maxRecDepth 100000

theorem rowsC_zeros (n : Nat) : rowsC (List.replicate n zero64) = List.replicate (n * 64) (.int .i64 0) := by
  induction n with
  | zero => rfl
  | succ n ih =>
    rw [List.replicate_succ, show rowsC (zero64 :: List.replicate n zero64) = ints .i64 zero64 ++ rowsC (List.replicate n zero64) from rfl, ih]
    rw [show ints .i64 zero64 = List.replicate 64 (.int .i64 0) by simp [ints, zero64], List.replicate_append_replicate]
    congr 1; omega
theorem made_zeros (n : Nat) : madeCells (Value.agg zeroB.toArray).cells (n * 64) = (rowsC (List.replicate n zero64)).toArray := by
  rw [rowsC_zeros]
  apply Array.ext
  · simp [madeCells]
  · intro i h1 h2
    have hz : ∀ j, j < 64 → zeroB[j]? = some (.int .i64 0) := by
      intro j hj
      show (ints .i64 (List.replicate 64 0))[j]? = _
      exact ints_at (List.getElem?_replicate.trans (if_pos hj))
    have h3 := hz (i % 64) (Nat.mod_lt _ (by omega))
    have hl : (zeroB.toArray).size = 64 := by simp [zeroB_length]
    simp only [madeCells, Value.cells, Array.getElem_map, Array.getElem_range, hl, List.getElem_toArray, List.getElem_replicate]
    rw [getElem!_def]
    simp [h3]
theorem run_make_zeros (n : Nat) (h : n ≤ 1000000) (u : World) : (Instr.makeSlice 28 (.int .i64 (n : Int)) (.int .i64 (n : Int))).run Try.prog u =
    .ok (.slice (some ⟨u.heap.size, 0, none⟩) n n) (u.alloc (.cells (rowsC (List.replicate n zero64)).toArray 42)) := by
  obtain ⟨i0, hi, hz0, hz1, hz2⟩ := info_parts info_blk3
  have h := run_make (P := Try.prog) u 28 42 i0 (.agg zeroB.toArray) Try.underlying28 hi hz0 .i64 .i64 n n (by omega) (by omega) (by rw [hz2]; omega) (by omega)
  rw [h, hz1]
  simp only [Int.toNat_natCast]
  rw [made_zeros]
section
variable {cs syms cs2 syms2 : List Int} {ps : List (List Int)} {ns : List Nat} {k m : Nat}
theorem mendO_next (hm : ns[k]? = some m) : mendO cs syms cs2 syms2 ps (ns.take (k + 1)) = mendO cs syms cs2 syms2 ps (ns.take k) ++ blkM cs syms cs2 syms2 ps k m := by
  have hk : (ns.take k).length = k := by rw [List.length_take]; have := (List.getElem?_eq_some_iff.1 hm).1; omega
  unfold mendO
  rw [fc_snoc hm, List.zipIdx_append, List.map_append, List.flatten_append, hk]
  simp
theorem mendB_next (hm : ns[k]? = some m) : mendB cs syms cs2 syms2 ps (ns.take (k + 1)) = mendB cs syms cs2 syms2 ps (ns.take k) ++ (if goodM cs syms cs2 syms2 ps k m = true then [] else [(k : Int)]) := by
  have hk : (ns.take k).length = k := by rw [List.length_take]; have := (List.getElem?_eq_some_iff.1 hm).1; omega
  unfold mendB
  rw [fc_snoc hm, List.zipIdx_append, List.filter_append, List.map_append, hk]
  congr 1
  cases hg : goodM cs syms cs2 syms2 ps k m <;> simp [hg]
theorem goodM_some {p : List Int} (hp : ps[k]? = some p) : goodM cs syms cs2 syms2 ps k m = decide (eDec cs syms cs2 syms2 p m = 0) := by unfold goodM; rw [hp]
theorem goodM_none (hp : ps.length ≤ k) : goodM cs syms cs2 syms2 ps k m = false := by unfold goodM; rw [List.getElem?_eq_none hp]
theorem blkM_good {p : List Int} (hp : ps[k]? = some p) (h : eDec cs syms cs2 syms2 p m = 0) : blkM cs syms cs2 syms2 ps k m = oDec cs syms cs2 syms2 p m := by
  unfold blkM
  rw [goodM_some hp, if_pos (decide_eq_true h), List.getD_eq_getElem?_getD, hp]; rfl
theorem blkM_lost (h : goodM cs syms cs2 syms2 ps k m = false) : blkM cs syms cs2 syms2 ps k m = List.replicate m zero64 := by unfold blkM; rw [if_neg (by rw [h]; decide)]
theorem blkM_rows (hcs : cs.length = 16) (hcs2 : cs2.length = 16) (hb : ∀ p ∈ ps, Bytes p) : (∀ r ∈ blkM cs syms cs2 syms2 ps k m, r.length = 64) ∧ (blkM cs syms cs2 syms2 ps k m).length = m := by
  cases hg : goodM cs syms cs2 syms2 ps k m with
  | false => rw [blkM_lost hg]; exact ⟨fun r hr => by rw [(List.mem_replicate.1 hr).2]; exact zero64_length, List.length_replicate⟩
  | true =>
    cases hp : ps[k]? with
    | none => unfold goodM at hg; rw [hp] at hg; cases hg
    | some p =>
      rw [goodM_some hp] at hg
      have he := of_decide_eq_true hg
      rw [blkM_good hp he]
      obtain ⟨h1, h2⟩ := oDec_rows (cs := cs) (syms := syms) (cs2 := cs2) (syms2 := syms2) hcs hcs2 (hb p (List.mem_of_getElem? hp)) (m : Int)
      exact ⟨h1, by have := h2 he; omega⟩
theorem mendO_rows (hcs : cs.length = 16) (hcs2 : cs2.length = 16) (hb : ∀ p ∈ ps, Bytes p) (ns : List Nat) : ∀ k, k ≤ ns.length → (∀ r ∈ mendO cs syms cs2 syms2 ps (ns.take k), r.length = 64) ∧ (mendO cs syms cs2 syms2 ps (ns.take k)).length = (ns.take k).sum
  | 0, _ => by simp [mendO]
  | k + 1, h => by
    obtain ⟨m, hm⟩ := some_at (xs := ns) (j := k) (by omega)
    obtain ⟨h1, h2⟩ := mendO_rows hcs hcs2 hb ns k (by omega)
    obtain ⟨h3, h4⟩ := blkM_rows (syms := syms) (syms2 := syms2) (k := k) (m := m) hcs hcs2 hb
    rw [mendO_next hm, fc_snoc hm]
    refine ⟨fun r hr => ?_, by rw [List.length_append, h2, h4]; simp⟩
    rcases List.mem_append.1 hr with hr | hr
    · exact h1 r hr
    · exact h3 r hr
theorem mendB_len (ps : List (List Int)) (ns : List Nat) : (mendB cs syms cs2 syms2 ps ns).length ≤ ns.length := by
  unfold mendB
  rw [List.length_map]
  refine Nat.le_trans (List.length_filter_le _ _) ?_
  rw [List.length_zipIdx]; omega
end
end Go.Proofs.Ytddkhkpdbjjboaa

/- Rows of blocks written in place; what Mend answers where it refuses. -/
namespace Go.Proofs.Ytddkhkpdbjjboaa
open Go.RowKit
set_option linter.unusedVariables false
set_option linter.unusedSimpArgs false
set_option maxRecDepth 100000

theorem zrow_len (n : Nat) : ∀ r ∈ List.replicate n zero64, r.length = 64 := fun r hr => by rw [(List.mem_replicate.1 hr).2]; exact zero64_length
section
variable {cs syms cs2 syms2 bs : List Int} {n every : Int}
theorem oMend_err (h : eHead cs syms cs2 syms2 bs n every ≠ 0) : oMend cs syms cs2 syms2 bs n every = [] ∧ bMend cs syms cs2 syms2 bs n every = [] := ⟨if_neg h, if_neg h⟩
end
end Go.Proofs.Ytddkhkpdbjjboaa

/- What scan's Encode, Decode and Mend are to do, as the laws use it. -/
namespace Go.Proofs.Ytddkhkpdbjjboaa
open Go.RowKit
set_option linter.unusedVariables false
set_option linter.unusedSimpArgs false
set_option maxRecDepth 100000

/-- Two tables in memory. -/
structure TabsIn (cs syms : List Int) (A : Option Addr) (c : Nat) (cs2 syms2 : List Int) (A2 : Option Addr) (c2 G : Nat) (w : World) : Prop where
  len : cs.length = 16
  max : syms.length ≤ maxLen
  cap : syms.length ≤ c
  bnd : ∀ x ∈ cs, -9223372036854775808 ≤ x ∧ x ≤ 9223372036854775807
  see : Seen w G A (ints .i64 syms)
  len2 : cs2.length = 16
  max2 : syms2.length ≤ maxLen
  cap2 : syms2.length ≤ c2
  bnd2 : ∀ x ∈ cs2, -9223372036854775808 ≤ x ∧ x ≤ 9223372036854775807
  see2 : Seen w G A2 (ints .i64 syms2)
theorem TabsIn.below {cs syms : List Int} {A : Option Addr} {c : Nat} {cs2 syms2 : List Int} {A2 : Option Addr} {c2 G B : Nat} {w w' : World} (h : TabsIn cs syms A c cs2 syms2 A2 c2 G w) (hb : Below B w w') (hG : G ≤ B) : TabsIn cs syms A c cs2 syms2 A2 c2 G w' :=
  ⟨h.len, h.max, h.cap, h.bnd, h.see.below hb hG, h.len2, h.max2, h.cap2, h.bnd2, h.see2.below hb hG⟩
theorem TabsIn.up {cs syms : List Int} {A : Option Addr} {c : Nat} {cs2 syms2 : List Int} {A2 : Option Addr} {c2 G G' : Nat} {w : World} (h : TabsIn cs syms A c cs2 syms2 A2 c2 G w) (hG : G ≤ G') : TabsIn cs syms A c cs2 syms2 A2 c2 G' w :=
  ⟨h.len, h.max, h.cap, h.bnd, h.see.up hG, h.len2, h.max2, h.cap2, h.bnd2, h.see2.up hG⟩
/-- scan.Decode's contract. -/
def DecSpec : Prop := ∀ (cs syms : List Int) (A : Option Addr) (c : Nat) (cs2 syms2 : List Int) (A2 : Option Addr) (c2 G : Nat) (bs : List Int) (A3 : Option Addr) (c3 : Nat) (n every : Int) (w : World),
  TabsIn cs syms A c cs2 syms2 A2 c2 G w → Bytes bs → bs.length ≤ 1048576 → bs.length ≤ c3 → Seen w G A3 (ints .u8 bs) → G ≤ w.heap.size →
    Calls Try.prog 10 #[tabsV cs A syms.length c cs2 A2 syms2.length c2, .slice A3 bs.length c3, .int .i64 n, .int .i64 every] w fun e w' => ∃ v, e = .returned (.tuple #[v, .int .i64 (eScD cs syms cs2 syms2 bs n every)]) ∧ Owns w.heap.size [blkRow v (oScD cs syms cs2 syms2 bs n every)] w' ∧ Below w.heap.size w w'
/-- scan.Mend's contract. -/
def MendSpec : Prop := ∀ (cs syms : List Int) (A : Option Addr) (c : Nat) (cs2 syms2 : List Int) (A2 : Option Addr) (c2 G : Nat) (bs : List Int) (A3 : Option Addr) (c3 : Nat) (n every : Int) (w : World),
  TabsIn cs syms A c cs2 syms2 A2 c2 G w → Bytes bs → bs.length ≤ 1048576 → bs.length ≤ c3 → Seen w G A3 (ints .u8 bs) → G ≤ w.heap.size →
    Calls Try.prog 11 #[tabsV cs A syms.length c cs2 A2 syms2.length c2, .slice A3 bs.length c3, .int .i64 n, .int .i64 every] w fun e w' => ∃ v v2, e = .returned (.tuple #[v, v2, .int .i64 (eHead cs syms cs2 syms2 bs n every)]) ∧ Owns w.heap.size [blkRow v (oMend cs syms cs2 syms2 bs n every), intRow 3 .i64 v2 (bMend cs syms cs2 syms2 bs n every)] w' ∧ Below w.heap.size w w'
theorem tabs34 {cs syms : List Int} {A : Option Addr} {c : Nat} {cs2 syms2 : List Int} {A2 : Option Addr} {c2 : Nat} (h : cs.length = 16) (h2 : cs2.length = 16) : (tabsCells cs A syms.length c cs2 A2 syms2.length c2).length = 34 := by unfold tabsCells; rw [List.length_append, tabCells_length h, tabCells_length h2]
end Go.Proofs.Ytddkhkpdbjjboaa

/- What scan's Decode and Mend answer: rows of 64 numbers. -/
namespace Go.Proofs.Ytddkhkpdbjjboaa
set_option linter.unusedVariables false
set_option linter.unusedSimpArgs false
set_option maxRecDepth 100000

theorem oMend_rows {cs syms cs2 syms2 bs : List Int} (hcs : cs.length = 16) (hcs2 : cs2.length = 16) (hby : Bytes bs) (n every : Int) : (∀ r ∈ oMend cs syms cs2 syms2 bs n every, r.length = 64) ∧ (oMend cs syms cs2 syms2 bs n every).length ≤ 1000000 ∧ (bMend cs syms cs2 syms2 bs n every).length ≤ 1000000 := by
  by_cases h : eHead cs syms cs2 syms2 bs n every = 0
  · obtain ⟨hrg, _, _⟩ := eHead_zero h
    obtain ⟨h1, h2⟩ := mendO_rows (cs := cs) (syms := syms) (cs2 := cs2) (syms2 := syms2) (ps := splitP bs) hcs hcs2 (fun p hp => splitP_bytes hby hp) (partsN n.toNat every.toNat) (partsN n.toNat every.toNat).length (Nat.le_refl _)
    rw [List.take_length] at h1 h2
    rw [partsN_sum] at h2
    have h3 := mendB_len (cs := cs) (syms := syms) (cs2 := cs2) (syms2 := syms2) (splitP bs) (partsN n.toNat every.toNat)
    have h4 := partsN_len n.toNat every.toNat
    unfold oMend bMend
    rw [if_pos h, if_pos h]
    exact ⟨h1, by omega, by omega⟩
  · unfold oMend bMend
    rw [if_neg h, if_neg h]; simp
end Go.Proofs.Ytddkhkpdbjjboaa

/- Mend beside Decode, in numbers. -/
namespace Go.Proofs.Ytddkhkpdbjjboaa
set_option linter.unusedVariables false
set_option linter.unusedSimpArgs false
set_option maxRecDepth 100000

section
variable {cs syms cs2 syms2 : List Int} {pp : List (List Int)} {ns : List Nat}
theorem mend_all (hlen : ns.length = pp.length) (h : ∀ x ∈ ((pp.zip ns).map fun x => eDec cs syms cs2 syms2 x.1 x.2), x = 0) :
    mendO cs syms cs2 syms2 pp ns = ((pp.zip ns).map fun x => oDec cs syms cs2 syms2 x.1 x.2).flatten ∧ mendB cs syms cs2 syms2 pp ns = [] := by
  have hg : ∀ (k m : Nat), ns[k]? = some m → ∃ p, pp[k]? = some p ∧ eDec cs syms cs2 syms2 p m = 0 ∧ goodM cs syms cs2 syms2 pp k m = true := by
    intro k m hm
    obtain ⟨p, hp⟩ := some_at (xs := pp) (j := k) (by have := (List.getElem?_eq_some_iff.1 hm).1; omega)
    have he := h _ (List.mem_of_getElem? (i := k) (by rw [List.getElem?_map, zip_at hp hm]; rfl))
    exact ⟨p, hp, he, by rw [goodM_some hp]; exact decide_eq_true he⟩
  constructor
  · unfold mendO
    congr 1
    apply List.ext_getElem?
    intro k
    rw [List.getElem?_map, List.getElem?_map, List.getElem?_zipIdx]
    cases hm : ns[k]? with
    | none =>
      have hz : (pp.zip ns)[k]? = none := by
        rw [List.getElem?_eq_none_iff] at hm ⊢
        rw [List.length_zip]; omega
      rw [hz]; rfl
    | some m =>
      obtain ⟨p, hp, he, _⟩ := hg k m hm
      rw [zip_at hp hm]
      simp only [Option.map_some, Nat.zero_add]
      rw [blkM_good hp he]
  · unfold mendB
    rw [List.filter_eq_nil_iff.2]
    · rfl
    · intro x hx
      obtain ⟨m, k⟩ := x
      rw [List.mem_zipIdx_iff_getElem?] at hx
      obtain ⟨p, hp, he, hgd⟩ := hg k m hx
      simp [hgd]
theorem mend_some (hlen : ns.length = pp.length) (h : firstE ((pp.zip ns).map fun x => eDec cs syms cs2 syms2 x.1 x.2) ≠ 0) : 0 < (mendB cs syms cs2 syms2 pp ns).length := by
  refine Classical.byContradiction fun hn => h ?_
  have hnil : mendB cs syms cs2 syms2 pp ns = [] := List.length_eq_zero_iff.1 (by omega)
  rw [firstE_zero]
  intro e he
  obtain ⟨k, hk⟩ := List.mem_iff_getElem?.1 he
  rw [List.getElem?_map] at hk
  cases hz : (pp.zip ns)[k]? with
  | none => rw [hz] at hk; cases hk
  | some x =>
    obtain ⟨p, m⟩ := x
    rw [hz] at hk
    simp only [Option.map_some, Option.some.injEq] at hk
    rw [List.getElem?_zip_eq_some] at hz
    unfold mendB at hnil
    rw [List.map_eq_nil_iff, List.filter_eq_nil_iff] at hnil
    have := hnil (m, k) (by rw [List.mem_zipIdx_iff_getElem?]; exact hz.2)
    simp only [goodM_some hz.1] at this
    rw [← hk]
    simpa using this
variable {bs : List Int} {n every : Int}
theorem mended_ok (h0 : eHead cs syms cs2 syms2 bs n every = 0) (h : eScD cs syms cs2 syms2 bs n every = 0) : oMend cs syms cs2 syms2 bs n every = oScD cs syms cs2 syms2 bs n every ∧ bMend cs syms cs2 syms2 bs n every = [] := by
  by_cases hc : (partsN n.toNat every.toNat).length = (splitP bs).length
  · cases hm : marksB (splitM bs) with
    | false => rw [eScD_mark h0 hc hm] at h; cases h
    | true =>
      have h2 := h
      rw [eScD_segs h0 hc hm] at h2
      obtain ⟨g1, g2⟩ := mend_all (cs := cs) (syms := syms) (cs2 := cs2) (syms2 := syms2) hc ((firstE_zero _).1 h2)
      unfold oMend bMend oScD
      rw [if_pos h0, if_pos h0, if_pos h]
      exact ⟨g1, g2⟩
  · rw [eScD_count h0 hc] at h; cases h
theorem mended_bad (h0 : eHead cs syms cs2 syms2 bs n every = 0) (h : eScD cs syms cs2 syms2 bs n every ≠ 0) : 0 < (bMend cs syms cs2 syms2 bs n every).length ∨ eScD cs syms cs2 syms2 bs n every = 6 ∨ eScD cs syms cs2 syms2 bs n every = 4 := by
  by_cases hc : (partsN n.toNat every.toNat).length = (splitP bs).length
  · cases hm : marksB (splitM bs) with
    | false => exact .inr (.inl (eScD_mark h0 hc hm))
    | true =>
      rw [eScD_segs h0 hc hm] at h
      refine .inl ?_
      unfold bMend
      rw [if_pos h0]
      exact mend_some hc h
  · exact .inr (.inr (eScD_count h0 hc))
end
end Go.Proofs.Ytddkhkpdbjjboaa

/- seg.Counts: its contract. -/
namespace Go.Proofs.Ytddkhkpdbjjboaa
open Go.RowKit
set_option linter.unusedVariables false
set_option linter.unusedSimpArgs false
set_option maxRecDepth 100000

theorem info_int' : (Try.prog.info? 3).map (fun i => (i.zero, i.size, i.bytes)) = some (some (.int .i64 0), 1, 8) := by kernel_rfl
def zero256 : List Value := ints .i64 (List.replicate 256 0)
theorem made256 : madeCells (Value.int .i64 0).cells 256 = zero256.toArray := by kernel_rfl
theorem run_make256 (u : World) : (Instr.makeSlice 23 (.int .i64 256) (.int .i64 256)).run Try.prog u = .ok (.slice (some ⟨u.heap.size, 0, none⟩) 256 256) (u.alloc (.cells zero256.toArray 3)) := by
  obtain ⟨i0, hi, hz0, hz1, hz2⟩ := info_parts info_int'
  have h := run_make (P := Try.prog) u 23 3 i0 (.int .i64 0) Try.underlying23 hi hz0 .i64 .i64 256 256 (by omega) (by omega) (by rw [hz2]; omega) (by omega)
  rw [hz1] at h
  rw [← made256]
  exact h
theorem ints_set (xs : List Int) (i : Nat) (x : Int) : (ints .i64 xs).set i (.int .i64 x) = ints .i64 (xs.set i x) := by simp [ints]
end Go.Proofs.Ytddkhkpdbjjboaa

/- The reference's Counts: its contract. -/
namespace Go.Proofs.Ytddkhkpdbjjboaa
open Go.RowKit
set_option linter.unusedVariables false
set_option linter.unusedSimpArgs false
set_option maxRecDepth 100000

theorem two0 (w : World) (xs : List Value) (t : TypeId) (b : Obj) : Blk ((w.alloc (.cells xs.toArray t)).alloc b).drew w.heap.size xs t :=
  (Blk.new w xs t).below (below1 _ b).drew (by simp)
theorem two1 (w : World) (xs : List Value) (t : TypeId) (a : Obj) : Blk ((w.alloc a).alloc (.cells xs.toArray t)).drew (w.heap.size + 1) xs t := by
  have h := Blk.new (w.alloc a) xs t
  rw [World.size_alloc] at h
  exact h
set_option maxRecDepth 100000 in
set_option maxHeartbeats 8000000 in
theorem refCounts_any (L : List (List Int)) (A : Option Addr) (c G : Nat) (w : World) (hl : ∀ r ∈ L, r.length = 64) (h400 : L.length ≤ 400) (hin : ∀ r ∈ L, inB (-2047) 2047 r = true) (hs : Seen w G A (rowsC L)) (hG : G ≤ w.heap.size) :
    Calls Try.prog 54 #[.slice A L.length c] w fun e w' => ∃ v1 v2, e = .returned (.tuple #[v1, v2]) ∧ Owns w.heap.size [intRow 3 .i64 v1 (tally true (toksB 0 L)), intRow 3 .i64 v2 (tally false (toksB 0 L))] w' ∧ Below w.heap.size w w' := by
  have hmk := run_make256
  have HTo := veil (fun b cs W h => refTokens_any b cs W h)
  unfold blkV at HTo
  have Hs := veil hs
  clear hs
  go_enter Try.func54, Try.ntmps54
  go_upto_region 1 with fail
  go_cut [4, 5] (fun v4 v5 wx => ∃ p1 p2 : Nat, v4 = .slice (some ⟨p1, 0, none⟩) 256 256 ∧ v5 = .slice (some ⟨p2, 0, none⟩) 256 256 ∧ Blk wx p1 zero256 3 ∧ Blk wx p2 zero256 3 ∧ p1 ≠ p2 ∧ w.heap.size ≤ p1 ∧ w.heap.size ≤ p2 ∧ Below w.heap.size w wx)
  case first =>
    go_region
    all_goals (go_wp2; go_meet)
    all_goals refine ⟨_, _, rfl, rfl, (by first | exact two0 _ _ _ _ | exact two1 _ _ _ _), (by first | exact two0 _ _ _ _ | exact two1 _ _ _ _), by omega, by omega, by omega, (below2 w _ _).drew⟩
  case rest =>
    obtain ⟨p1, p2, rfl, rfl, hp1, hp2, n1, l1, l2, hb⟩ := hcut
    have HP1 := veil hp1; have HP2 := veil hp2; have HbC := veil hb
    clear hmk hp1 hp2 hb
    go_wp2_with fail
    go_loopg [17] L.length (fun gk iv wr => ∃ (k : Nat), gk = L.length - k ∧ k ≤ L.length ∧ iv = .int .i64 (k : Int) ∧ Hid (Blk wr p1 (ints .i64 (tally true (toksB 0 (L.take k)))) 3) ∧ Hid (Blk wr p2 (ints .i64 (tally false (toksB 0 (L.take k)))) 3) ∧ Hid (Below w.heap.size w wr))
    case atStart => exact ⟨0, rfl, Nat.zero_le _, rfl, HP1, HP2, HbC⟩
    case round =>
      clear HP1 HP2 HbC
      obtain ⟨k, rfl, hk, rfl, HQ1, HQ2, Hbe⟩ := hrel
      obtain ⟨W1, hW1⟩ : ∃ W1, W1 = wr := ⟨_, rfl⟩
      subst hW1
      have hzr := Hbe.out.size
      by_cases hlt : k < L.length
      · have hltz : (k : Int) < (L.length : Int) := by omega
        obtain ⟨g, o, r, rfl, hg, hr, hrl, hrange⟩ := Hs.out.row hl (by omega) hlt
        have hrg := range_below hrange Hbe.out (by omega)
        have hbin := ahead_in (k := k) hl (fun r hr => hin r (List.mem_of_mem_take hr)) hk
        have Hl : Hid ((ints .i64 r).length = 64) := by show _ = _; rw [ints_length, hrl]
        have hone := ints_one (k := .i64) (l := r)
        have hr2 := range_new W1 (ints .i64 r) 42
        have hB2 := Blk.new W1 (ints .i64 r) 42
        have hb2 := below1 W1 (.cells (ints .i64 r).toArray 42)
        have HT2 := veil (HTo.out (ahead L k) r (W1.alloc (.cells (ints .i64 r).toArray 42)) hrl)
        have hz2 : (W1.alloc (.cells (ints .i64 r).toArray 42)).heap.size = W1.heap.size + 1 := by simp
        have hS2 : Seen (W1.alloc (.cells (ints .i64 r).toArray 42)) G (some ⟨g, o, none⟩) (rowsC L) := (Hs.out.below Hbe.out hG).below hb2 (by omega)
        have Hr := veil hr
        have Hbin := veil hbin
        have Hrl := veil hrl
        have hinr := hin r (List.mem_of_getElem? hr)
        have Hinr := veil hinr
        obtain ⟨ys, hys⟩ : ∃ ys, ys = ints .i64 r := ⟨_, rfl⟩
        rw [← hys] at hrg Hl hone hr2 hB2 hb2 HT2 hz2 hS2
        have HS2 := veil hS2
        have Hhb2 := veil hb2
        clear hrange hr hrl hbin hys hinr hS2 hb2 hB2
        go_upto_if 23 with (first
          | (refine wpList_load_mid rfl 42 (.tmp 20) rfl g (o + k * 64) rfl ys _ hrg Try.underlying42 rfl (info_blkn Hl.out) ?_)
          | (refine wpList_store_new W1 rfl 42 (.tmp 7) (.tmp 21) rfl zeroB.toArray ys rfl rfl (info_blkn Hl.out) (by rw [Hl.out]; rfl) hone ?_)
          | fail)
        obtain ⟨W2, hW2⟩ : ∃ W2, W2 = W1.alloc (.cells ys.toArray 42) := ⟨_, rfl⟩
        rw [← hW2] at hr2 hz2 HT2 HS2 Hhb2 ⊢
        clear hrg hW2
        go_cut [8] (fun v8 wx => v8 = .int .i64 (ahead L k) ∧ wx = W2)
        case first =>
          by_cases hk0 : k = 0
          · subst hk0
            go_wp2_with fail
            go_meet
            case rel => exact ⟨rfl, rfl⟩
          · obtain ⟨j, rfl⟩ : ∃ j, k = j + 1 := ⟨k - 1, by omega⟩
            obtain ⟨g9, o9, r9, hA9, hg9, hr9, hrl9, hrange9⟩ := HS2.out.row hl (by omega) (k := j) (by omega)
            simp only [Option.some.injEq, Addr.mk.injEq, and_true] at hA9
            obtain ⟨rfl, rfl⟩ := hA9
            have hc9 := hrange9 0 (.int .i64 (ahead L (j + 1))) (by
              rw [ahead_next hr9]
              match r9, hrl9 with
              | z :: r9, _ => rfl)
            rw [Nat.add_zero] at hc9
            have hw9 : IntKind.i64.wrap (((j + 1 : Nat) : Int) - 1) = (j : Int) := by rw [IntKind.wrap_i64]; omega
            have hp9 : (0 : Int) < ((j + 1 : Nat) : Int) := by omega
            obtain ⟨AH, hAH⟩ : ∃ AH, AH = ahead L (j + 1) := ⟨_, rfl⟩
            rw [← hAH] at hc9
            have HAH := veil hAH
            clear hrange9 hr9 hAH
            go_wp2_with fail
            go_meet
            case rel => exact ⟨by rw [HAH.out], rfl⟩
        case rest =>
          obtain ⟨rfl, hwc⟩ := hcut
          have hwc' : wc = W2 := hwc
          subst wc
          go_wp2_with (first
            | (refine wpList_load_mid rfl 42 (.tmp 7) rfl W1.heap.size 0 rfl ys _ hr2 Try.underlying42 rfl (info_blkn Hl.out) ?_)
            | fail)
          refine HT2.out.mono ?_
          rintro e w3 ⟨v, rfl, HO3, hb3⟩
          have hz3 := hb3.size
          rw [hz2] at hz3 HO3
          have hlp1 := HQ1.out.lt
          have hlp2 := HQ2.out.lt
          have hT0 := eT_ok Hbin.out.1 Hbin.out.2 Hinr.out
          rw [oT_ok hT0] at HO3
          rw [hT0]
          obtain ⟨T, hT⟩ : ∃ T, T = toksZ (ahead L k) (toL r) := ⟨_, rfl⟩
          have hgood : ∀ t ∈ T, goodT t := by rw [hT]; exact toks_good Hbin.out (toL_in Hrl.out Hinr.out)
          have hTl : T.length ≤ 64 := by rw [hT]; exact toks_len _ (toL_length _)
          have hacc : toksB 0 (L.take (k + 1)) = toksB 0 (L.take k) ++ flagT T := by rw [toksB_next Hr.out, hT]
          have hlen0 : (toksB 0 (L.take k)).length ≤ 64 * k := by have := toksB_len (L.take k) 0; rw [List.length_take, Nat.min_eq_left hk] at this; exact this
          rw [← hT] at HO3
          obtain ⟨A5, c5, hv5, _, _, _⟩ := tok_form HO3
          have hQ13 := (HQ1.out.below Hhb2.out hlp1).below hb3 (by rw [hz2]; omega)
          have hQ23 := (HQ2.out.below Hhb2.out hlp2).below hb3 (by rw [hz2]; omega)
          have hbw3 := (Hbe.out.trans (Hhb2.out.mono Hbe.out.size)).trans (hb3.mono (by rw [hz2]; omega))
          have Hgood := veil hgood; have Hacc := veil hacc; have HO3 := veil HO3; have HQ13 := veil hQ13; have HQ23 := veil hQ23; have Hbw3 := veil hbw3; have Hlen0 := veil hlen0
          subst v
          clear hT0 hT hgood hacc hlen0 hQ13 hQ23 hbw3 hb3 hr2 HT2 HS2 Hhb2
          go_wp2_with fail
          go_loopg [38] T.length (fun gk iv wi => ∃ (j : Nat), gk = T.length - j ∧ j ≤ T.length ∧ iv = .int .i64 (j : Int) ∧ Hid (Blk wi p1 (ints .i64 (tally true (toksB 0 (L.take k) ++ flagT (T.take j)))) 3) ∧ Hid (Blk wi p2 (ints .i64 (tally false (toksB 0 (L.take k) ++ flagT (T.take j)))) 3) ∧ Hid (Owns (W1.heap.size + 1) [tokRow (.slice A5 T.length c5) T] wi) ∧ Hid (Below w.heap.size w wi) ∧ Hid (w3.heap.size ≤ wi.heap.size))
          case atStart => exact ⟨0, rfl, Nat.zero_le _, rfl, by rw [List.take_zero]; simpa [flagT] using HQ13, by rw [List.take_zero]; simpa [flagT] using HQ23, HO3, Hbw3, veil (Nat.le_refl _)⟩
          case round =>
            clear HQ13 HQ23 HO3 Hbw3
            obtain ⟨j, rfl, hj, rfl, Hp1, Hp2, HO, Hbw, Hzi⟩ := hrel
            by_cases hltj : j < T.length
            · have hltjz : (j : Int) < (T.length : Int) := by omega
              obtain ⟨A6, c6, hv6, hs6, hc6, hm6⟩ := tok_form HO.out
              obtain ⟨rfl, rfl⟩ : A5 = A6 ∧ c5 = c6 := by simpa using hv6
              obtain ⟨g6, o6, t0, t1, t2, rfl, hg6, htj, d0, d1, d2⟩ := hs6.tok hltj
              have hg := (Hgood.out _ (List.mem_of_getElem? htj)).2
              simp only at hg
              obtain ⟨S, hS⟩ : ∃ S : Nat, t0 = (S : Int) := ⟨t0.toNat, by omega⟩
              subst hS
              have hS256 : S < 256 := by omega
              have hzi := Hzi.out
              have hlenk := Hlen0.out
              have hb7 := below1 wr (.cells #[.int .i64 (S : Int), .int .i64 t1, .int .i64 t2] 76)
              have hfl : (toksB 0 (L.take k) ++ flagT (T.take j)).length < 25600 := by
                rw [List.length_append, flagT_length, List.length_take]; omega
              have hsn : (toksB 0 (L.take k) ++ flagT (T.take j)) ++ [(decide (j = 0), (S : Int), t1, t2)] = toksB 0 (L.take k) ++ flagT (T.take (j + 1)) := by
                rw [List.append_assoc]
                congr 1
                have h9 := flagT_at htj
                rw [← flagT_take, ← flagT_take, take_snoc h9]
              clear hs6 hv6 htj hg
              by_cases hj0 : j = 0
              · have hjb : ((j : Int) == 0) = true := by simp [hj0]
                obtain ⟨x, hx⟩ := some_at (xs := tally true (toksB 0 (L.take k) ++ flagT (T.take j))) (j := S) (by rw [tally_length]; exact hS256)
                have hxb := tally_in true (toksB 0 (L.take k) ++ flagT (T.take j)) x (List.mem_of_getElem? hx)
                have hB := Hp1.out.below hb7 (by have := Hp1.out.lt; omega)
                have k1 := hB.cell (i := S) (v := .int .i64 x) (ints_at hx)
                have f1 := hB.frozen S
                have hB2 := hB.set S (.int .i64 (x + 1))
                have hbump : (ints .i64 (tally true (toksB 0 (L.take k) ++ flagT (T.take j)))).set S (.int .i64 (x + 1)) = ints .i64 (tally true (toksB 0 (L.take k) ++ flagT (T.take (j + 1)))) := by
                  rw [← hsn, tally_snoc, if_pos (by simp [hj0]), ints_set]; unfold bump
                  rw [Int.toNat_natCast, List.getD_eq_getElem?_getD, hx]; rfl
                rw [hbump] at hB2
                have hsame : tally false (toksB 0 (L.take k) ++ flagT (T.take (j + 1))) = tally false (toksB 0 (L.take k) ++ flagT (T.take j)) := by rw [← hsn, tally_snoc, if_neg (by simp [hj0])]
                have hg2 := grown_setCell (wr.alloc (.cells #[.int .i64 (S : Int), .int .i64 t1, .int .i64 t2] 76)) p1 S (.int .i64 (x + 1))
                have hw : IntKind.i64.wrap (x + 1) = x + 1 := by rw [IntKind.wrap_i64]; omega
                have hq9 := (Hp2.out.below hb7 (by have := Hp2.out.lt; omega)).kept hg2 (by simp; omega)
                rw [← hsame] at hq9
                have hO9 := (HO.out.below hb7).kept hg2 (by omega)
                have hbw9 := ((Hbw.out.trans (hb7.mono Hbw.out.size)).grown hg2 (by have := Hbw.out.size; simp; omega) (fun j hj => by injection hj with hj; omega) : Below w.heap.size w _)
                have HB2 := veil hB2; have Hq9 := veil hq9; have HO9 := veil hO9; have Hbw9 := veil hbw9
                have hzi9 : w3.heap.size ≤ ((wr.alloc (.cells #[.int .i64 (S : Int), .int .i64 t1, .int .i64 t2] 76)).setCell ⟨p1, S, none⟩ (.int .i64 (x + 1))).heap.size := by have := hg2.size; simp at this; simp; omega
                have Hzi9 := veil hzi9
                clear hB hB2 hbump hsame hg2 hq9 hO9 hbw9 hzi9 hx hxb hb7 hlp1 hlp2 hsn hj0
                go_wp2_with fail
                go_roundg (T.length - (j + 1))
                case rel => exact ⟨j + 1, rfl, by omega, by go_num, HB2, Hq9, HO9, Hbw9, Hzi9⟩
                case measure => omega
              · have hjb : ((j : Int) == 0) = false := by simp [hj0]
                obtain ⟨x, hx⟩ := some_at (xs := tally false (toksB 0 (L.take k) ++ flagT (T.take j))) (j := S) (by rw [tally_length]; exact hS256)
                have hxb := tally_in false (toksB 0 (L.take k) ++ flagT (T.take j)) x (List.mem_of_getElem? hx)
                have hB := Hp2.out.below hb7 (by have := Hp2.out.lt; omega)
                have k1 := hB.cell (i := S) (v := .int .i64 x) (ints_at hx)
                have f1 := hB.frozen S
                have hB2 := hB.set S (.int .i64 (x + 1))
                have hbump : (ints .i64 (tally false (toksB 0 (L.take k) ++ flagT (T.take j)))).set S (.int .i64 (x + 1)) = ints .i64 (tally false (toksB 0 (L.take k) ++ flagT (T.take (j + 1)))) := by
                  rw [← hsn, tally_snoc, if_pos (by simp [hj0]), ints_set]; unfold bump
                  rw [Int.toNat_natCast, List.getD_eq_getElem?_getD, hx]; rfl
                rw [hbump] at hB2
                have hsame : tally true (toksB 0 (L.take k) ++ flagT (T.take (j + 1))) = tally true (toksB 0 (L.take k) ++ flagT (T.take j)) := by rw [← hsn, tally_snoc, if_neg (by simp [hj0])]
                have hg2 := grown_setCell (wr.alloc (.cells #[.int .i64 (S : Int), .int .i64 t1, .int .i64 t2] 76)) p2 S (.int .i64 (x + 1))
                have hw : IntKind.i64.wrap (x + 1) = x + 1 := by rw [IntKind.wrap_i64]; omega
                have hq9 := (Hp1.out.below hb7 (by have := Hp1.out.lt; omega)).kept hg2 (by simp; omega)
                rw [← hsame] at hq9
                have hO9 := (HO.out.below hb7).kept hg2 (by omega)
                have hbw9 := ((Hbw.out.trans (hb7.mono Hbw.out.size)).grown hg2 (by have := Hbw.out.size; simp; omega) (fun j hj => by injection hj with hj; omega) : Below w.heap.size w _)
                have HB2 := veil hB2; have Hq9 := veil hq9; have HO9 := veil hO9; have Hbw9 := veil hbw9
                have hzi9 : w3.heap.size ≤ ((wr.alloc (.cells #[.int .i64 (S : Int), .int .i64 t1, .int .i64 t2] 76)).setCell ⟨p2, S, none⟩ (.int .i64 (x + 1))).heap.size := by have := hg2.size; simp at this; simp; omega
                have Hzi9 := veil hzi9
                clear hB hB2 hbump hsame hg2 hq9 hO9 hbw9 hzi9 hx hxb hb7 hlp1 hlp2 hsn hj0
                go_wp2_with fail
                go_roundg (T.length - (j + 1))
                case rel => exact ⟨j + 1, rfl, by omega, by go_num, Hq9, HB2, HO9, Hbw9, Hzi9⟩
                case measure => omega
            · obtain rfl : j = T.length := by omega
              have h1 := Hp1.out
              have h2 := Hp2.out
              rw [List.take_length, ← Hacc.out] at h1 h2
              have H1 := veil h1; have H2 := veil h2
              clear h1 h2 hlp1 hlp2
              go_wp2_with fail
              go_roundg (L.length - (k + 1))
              case rel => exact ⟨k + 1, rfl, by omega, by go_num, H1, H2, Hbw⟩
              case measure => omega
      · obtain rfl : k = L.length := by omega
        have h1 := HQ1.out
        have h2 := HQ2.out
        rw [List.take_length] at h1 h2
        have hl1 := tally_length true (toksB 0 L)
        have hl2 := tally_length false (toksB 0 L)
        have own := fun (p : Nat) (X : List Int) (hx : X.length = 256) (hp : Blk W1 p (ints .i64 X) 3) (hw : w.heap.size ≤ p) =>
          (⟨by rw [ints_length, hx], .inr ⟨p, 256, (ints .i64 X).toArray, rfl, hw, hp, by omega, by unfold maxLen; omega, by simp [ints_length, hx], by rw [List.take_of_length_le (by simp [ints_length, hx])]⟩⟩ : W1.ownsRow w.heap.size 3 1 (.slice (some ⟨p, 0, none⟩) 256 256) 256 (ints .i64 X))
        have o1 := own p1 _ hl1 h1 l1
        have o2 := own p2 _ hl2 h2 l2
        have HOw : Hid (Owns w.heap.size [intRow 3 .i64 (.slice (some ⟨p1, 0, none⟩) 256 256) (tally true (toksB 0 L)), intRow 3 .i64 (.slice (some ⟨p2, 0, none⟩) 256 256) (tally false (toksB 0 L))] W1) :=
          ⟨Hbe.out.size, fun r hr => by
            rcases List.mem_cons.1 hr with rfl | hr
            · simp only [intRow, hl1]; exact o1
            · rw [List.mem_singleton.1 hr]; simp only [intRow, hl2]; exact o2, by
            refine List.pairwise_cons.2 ⟨fun s hs g hg hg2 => ?_, List.pairwise_singleton _ _⟩
            rw [List.mem_singleton.1 hs] at hg2
            simp only [intRow, Value.ownBlock] at hg hg2
            injection hg with hg; injection hg2 with hg2; omega⟩
        clear own o1 o2 h1 h2 hl1 hl2 HQ1 HQ2
        go_wp2_with fail
        go_ret2
        exact ⟨_, _, rfl, HOw.out, Hbe.out⟩
end Go.Proofs.Ytddkhkpdbjjboaa

/- Parts of a slice of blocks. -/
namespace Go.Proofs.Ytddkhkpdbjjboaa
open Go.RowKit
set_option linter.unusedVariables false
set_option linter.unusedSimpArgs false
set_option maxRecDepth 100000

def cutR (A : Option Addr) (f h c : Nat) : Value := .slice (if c = f then A else A.map (·.add (f * 64))) (h - f) (c - f)
theorem run_cutR_to (A : Option Addr) (n c h : Nat) (h2 : h ≤ c) (u : World) : (Instr.sliceAt 28 (.slice A n c) none (some (.int .i64 (h : Int))) none).run Try.prog u = .ok (.slice A h c) u := by
  have he : Try.prog.underlying 28 = some (.slice (Try.prog.elem 28)) := by kernel_rfl
  have hz : (sizeOf (Try.prog.elem 28)).run Try.prog u = .ok 64 u := by kernel_rfl
  rw [run_sliceAt_slice _ _ _ _ _ _ he, run_slice_h _ _ _ _ _ he _ _ (by omega) (by omega), hz]
  simp [Result.andThen, sliced]
  intro _
  cases A with
  | none => rfl
  | some a => simp [Addr.add]
theorem run_cutR_end (A : Option Addr) (n c f : Nat) (h1 : f ≤ n) (u : World) : (Instr.sliceAt 28 (.slice A n c) (some (.int .i64 (f : Int))) none none).run Try.prog u = .ok (cutR A f n c) u := by
  have he : Try.prog.underlying 28 = some (.slice (Try.prog.elem 28)) := by kernel_rfl
  have hz : (sizeOf (Try.prog.elem 28)).run Try.prog u = .ok 64 u := by kernel_rfl
  rw [run_sliceAt_slice _ _ _ _ _ _ he, run_slice_l _ _ _ _ _ he _ _ (by omega) (by omega), hz]
  simp [Result.andThen, sliced, cutR]
theorem cutR_drop {w : World} {G c f : Nat} {A : Option Addr} {L : List (List Int)} (hl : ∀ r ∈ L, r.length = 64) (hs : Seen w G A (rowsC L)) (hf : f ≤ L.length) (hc : L.length ≤ c) :
    ∃ A', cutR A f L.length c = .slice A' (L.drop f).length (c - f) ∧ Seen w G A' (rowsC (L.drop f)) := by
  refine ⟨_, by rw [cutR, List.length_drop], ?_⟩
  by_cases hcf : c = f
  · have : L.drop f = [] := List.drop_of_length_le (by omega)
    rw [this]; exact .inl rfl
  · rw [if_neg hcf]
    have h9 := rowsC_take L f
    have h8 : (rowsC (L.take f)).length = f * 64 := by
      rw [rowsC_length (n := 64) (fun r hr => hl r (List.mem_of_mem_take hr)), List.length_take, Nat.min_eq_left hf]
    rcases hs with hs | ⟨g, o, rfl, hg, hcell⟩
    · rw [hs] at h9
      exact .inl (List.append_eq_nil_iff.1 h9.symm).2
    · refine .inr ⟨g, o + f * 64, by simp [addr_add], hg, fun j u hu => ?_⟩
      have h7 : (rowsC L)[f * 64 + j]? = some u := by
        rw [h9, List.getElem?_append_right (by omega), h8, Nat.add_sub_cancel_left]; exact hu
      have := hcell _ _ h7
      rw [← this]; congr 2; omega
theorem cutR_take {w : World} {G k : Nat} {A : Option Addr} {L : List (List Int)} (hs : Seen w G A (rowsC L)) : Seen w G A (rowsC (L.take k)) := by
  have h9 := rowsC_take L k
  rcases hs with hs | ⟨g, o, rfl, hg, hcell⟩
  · rw [hs] at h9
    exact .inl (List.append_eq_nil_iff.1 h9.symm).1
  · refine .inr ⟨g, o, rfl, hg, fun j u hu => hcell j u ?_⟩
    rw [h9, List.getElem?_append_left (List.getElem?_eq_some_iff.1 hu).1]; exact hu
end Go.Proofs.Ytddkhkpdbjjboaa
