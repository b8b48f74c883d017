/- Tables and the lengths of their words: a table that may be leaves room; the table made of lengths has just these. -/
import Derived.Test.YthelblkpfkngmaaBestMath
import Derived.Test.YthelblkpfkngmaaBestCost
import Derived.Test.YthelblkpfkngmaaBestOrdered
namespace Go.Proofs.Ythelblkpfkngmaa
open Go.RowKit
set_option linter.unusedVariables false
set_option linter.unusedSimpArgs false

/-- The lengths of the words of these counts. -/
def lensFrom : Nat → List Nat → List Nat
  | _, [] => []
  | k, n :: ns => List.replicate n (k + 1) ++ lensFrom (k + 1) ns
theorem codesFrom_lens : ∀ (ns : List Nat) (k c : Nat) (l : List (Nat × Nat)), codesFrom k c ns = some l → l.map (·.1) = lensFrom k ns := by
  intro ns
  induction ns with
  | nil => intro k c l h; simp [codesFrom] at h; subst h; rfl
  | cons n ns ih =>
    intro k c l h
    unfold codesFrom at h
    split at h
    · cases hq : codesFrom (k + 1) (2 * (c + n)) ns with
      | none => simp [hq] at h
      | some m =>
        simp [hq] at h
        subst h
        rw [List.map_append, ih _ _ _ hq, lensFrom]
        congr 1
        rw [List.map_map, List.eq_replicate_iff]
        refine ⟨by simp, ?_⟩
        intro b hb
        simp at hb
        exact hb.2.symm
    · cases h
theorem kr_sum : ∀ (l : List (Nat × Nat)) (R : Nat), Kr R l → R + sumF l (fun p => 2 ^ (16 - p.1)) < 65536
  | [], R, h => by rw [sumF_nil]; exact h
  | p :: l, R, h => by
    have := kr_sum l _ h.2.2.2.2
    rw [sumF_cons]; omega
theorem roomOf_lens : ∀ (ns : List Nat) (k : Nat), roomOf k ns = sumF (lensFrom k ns) (fun n => 2 ^ (16 - n))
  | [], k => rfl
  | n :: ns, k => by
    rw [roomOf, lensFrom, sumF_append, roomOf_lens ns (k + 1)]
    congr 1
    have : sumF (List.replicate n (k + 1)) (fun n => 2 ^ (16 - n)) = n * 2 ^ (16 - (k + 1)) := by simp [sumF, List.map_replicate, List.sum_replicate_nat]
    rw [this, show 16 - (k + 1) = 15 - k by omega]
/-! ### which length a symbol has -/
theorem lenF_none {ws : List (Int × Nat × Nat)} {s : Int} (h : s ∉ ws.map (·.1)) : lenF ws s = none := by
  induction ws using snoc_ind with
  | h0 => rfl
  | h1 ws t ih =>
    rw [lenF_snoc]
    simp only [List.map_append, List.mem_append, not_or] at h
    unfold upd
    rw [if_neg (by intro e; apply h.2; simp [e]), ih h.1]
theorem lenF_mem {ws : List (Int × Nat × Nat)} (hn : (ws.map (·.1)).Nodup) {t : Int × Nat × Nat} (h : t ∈ ws) : lenF ws t.1 = some (t.2.1 : Int) := by
  induction ws using snoc_ind with
  | h0 => cases h
  | h1 ws u ih =>
    rw [lenF_snoc]
    rw [List.map_append, List.nodup_append] at hn
    unfold upd
    rcases List.mem_append.1 h with h | h
    · rw [if_neg (hn.2.2 _ (List.mem_map_of_mem h) _ (by simp)), ih hn.1 h]
    · simp at h; subst h; simp
/-- The length that a table gives a symbol; 0 if it gives none. -/
def tabL (cs syms : List Int) (s : Int) : Nat := ((lenF (outWords cs syms) s).getD 0).toNat
section
variable {cs syms zs : List Int}
theorem tab_some (hcs : cs.length = 16) (h : checkErr cs syms = 0) {s : Int} (hs : s ∈ syms) : ∃ n : Nat, lenF (outWords cs syms) s = some (n : Int) ∧ 1 ≤ n ∧ n ≤ 16 := by
  obtain ⟨l, hf, e, hl⟩ := fine_of h
  have hm : (outWords cs syms).map (·.1) = syms := by rw [e]; exact mkWords_fst hl
  rw [← hm] at hs
  obtain ⟨t, ht, rfl⟩ := List.mem_map.1 hs
  have hw := words_small hcs h t ht
  exact ⟨t.2.1, lenF_mem (by rw [hm]; exact hf.nodup) ht, hw.2.2.1, hw.2.2.2⟩
theorem tab_none (h : checkErr cs syms = 0) {s : Int} (hs : s ∉ syms) : lenF (outWords cs syms) s = none := by
  obtain ⟨l, hf, e, hl⟩ := fine_of h
  have hm : (outWords cs syms).map (·.1) = syms := by rw [e]; exact mkWords_fst hl
  exact lenF_none (by rw [hm]; exact hs)
theorem tab_lens (h : checkErr cs syms = 0) : syms.map (tabL cs syms) = lensFrom 0 (nats cs) := by
  obtain ⟨l, hf, e, hl⟩ := fine_of h
  have hm : (outWords cs syms).map (·.1) = syms := by rw [e]; exact mkWords_fst hl
  rw [← codesFrom_lens (nats cs) 0 0 l hf.code]
  apply List.ext_getElem?
  intro i
  by_cases hi : i < syms.length
  · obtain ⟨s, hs⟩ := some_at hi
    obtain ⟨p, hp⟩ := some_at (xs := l) (j := i) (by omega)
    have ht : (s, p.1, p.2) ∈ outWords cs syms := by
      rw [e]
      refine List.mem_of_getElem? (i := i) ?_
      unfold mkWords
      rw [List.getElem?_zipWith, hs, hp]
    have := lenF_mem (by rw [hm]; exact hf.nodup) ht
    rw [List.getElem?_map, List.getElem?_map, hs, hp]
    simp only [Option.map_some, tabL]
    simp only at this
    rw [this]; simp
  · rw [List.getElem?_eq_none (by simp; omega), List.getElem?_eq_none (by simp; omega)]
theorem tab_room (hcs : cs.length = 16) (h : checkErr cs syms = 0) : sumF syms (fun s => 2 ^ (16 - tabL cs syms s)) ≤ 65535 := by
  obtain ⟨l, hf, e, hl⟩ := fine_of h
  have h1 := kr_sum l 0 (codes_kr (by rw [nats_length]; exact hcs) hf.code)
  have h2 : sumF syms (fun s => 2 ^ (16 - tabL cs syms s)) = sumF l (fun p => 2 ^ (16 - p.1)) := by
    have : ((syms.map (tabL cs syms)).map (fun n => 2 ^ (16 - n))).sum = ((l.map (·.1)).map (fun n => 2 ^ (16 - n))).sum := by
      rw [tab_lens h, codesFrom_lens (nats cs) 0 0 l hf.code]
    simpa [sumF, List.map_map, Function.comp_def] using this
  omega
theorem tab_code (hcs : cs.length = 16) (h : checkErr cs syms = 0) (hu : ∀ i ∈ used zs, i ∈ syms) : CodeL zs (tabL cs syms) := by
  refine ⟨fun i hi => ?_, Nat.le_trans (sumF_sub (used_nodup zs) hu _) (tab_room hcs h)⟩
  obtain ⟨n, h1, h2, h3⟩ := tab_some hcs h (hu i hi)
  unfold tabL; rw [h1]; simp; omega
/-! ### what a table costs -/
theorem costSum_eq {f : Int → Option Int} (hf : ∀ s, 0 ≤ (f s).getD 0) (l : List (Int × Int)) (h : ∀ p ∈ l, 0 ≤ p.2) : costSum f l = ((sumF (l.filter fun p => decide (0 < p.2)) fun p => p.2.toNat * ((f p.1).getD 0).toNat : Nat) : Int) := by
  induction l with
  | nil => rfl
  | cons p l ih =>
    have h1 := ih fun q hq => h q (by simp [hq])
    have h2 := h p (by simp)
    have e : costSum f (p :: l) = p.2 * (f p.1).getD 0 + costSum f l := by simp [costSum]
    rw [e, h1]
    by_cases hp : 0 < p.2
    · rw [List.filter_cons_of_pos (by simpa using hp), sumF_cons, Int.natCast_add, Int.natCast_mul]
      have e1 : ((p.2.toNat : Nat) : Int) = p.2 := by omega
      have e2 : ((((f p.1).getD 0).toNat : Nat) : Int) = (f p.1).getD 0 := by have := hf p.1; omega
      rw [e1, e2]
    · rw [List.filter_cons_of_neg (by simpa using hp), show p.2 = 0 by omega]; simp
theorem cost_eq (hcs : cs.length = 16) (h : checkErr cs syms = 0) (hz : ∀ x ∈ zs, 0 ≤ x) : costSum (lenF (outWords cs syms)) (enumI zs) = (costL zs (tabL cs syms) : Int) := by
  rw [costSum_eq (fun s => (lenF_range (fun t ht => (words_small hcs h t ht).2.2.2) s).1) _ (fun p hp => by
    obtain ⟨k, _, h2⟩ := enumI_get hp; exact hz _ (List.mem_of_getElem? h2))]
  congr 1
  unfold costL used
  rw [show sumF (((enumI zs).filter fun p => decide (0 < p.2)).map (·.1)) (fun i => cntZ zs i * tabL cs syms i) = sumF ((enumI zs).filter fun p => decide (0 < p.2)) (fun p => cntZ zs p.1 * tabL cs syms p.1) by simp [sumF, List.map_map, Function.comp_def]]
  refine sumF_congr fun p hp => ?_
  obtain ⟨k, h1, h2⟩ := enumI_get (List.mem_filter.1 hp).1
  rw [h1, cntZ_at h2]; rfl
theorem miss_false (hcs : cs.length = 16) (h : checkErr cs syms = 0) : missB (lenF (outWords cs syms)) (enumI zs) = false ↔ ∀ i ∈ used zs, i ∈ syms := by
  unfold missB
  rw [List.any_eq_false]
  constructor
  · intro h1 i hi
    refine Classical.byContradiction fun hn => ?_
    obtain ⟨k, x, rfl, h2, h3⟩ := used_mem.1 hi
    exact h1 _ (List.mem_of_getElem? (enumI_at h2)) (by simp [h3, tab_none h hn])
  · intro h1 p hp hc
    simp only [Bool.and_eq_true, decide_eq_true_eq, Option.isNone_iff_eq_none] at hc
    obtain ⟨k, h2, h3⟩ := enumI_get hp
    have hu : p.1 ∈ used zs := used_mem.2 ⟨k, p.2, h2, h3, hc.1⟩
    obtain ⟨n, h4, _⟩ := tab_some hcs h (h1 _ hu)
    rw [h4] at hc; simp at hc
theorem costE_zero (hcs : cs.length = 16) : costE cs syms zs = 0 ↔ checkErr cs syms = 0 ∧ errB zs = 0 ∧ ∀ i ∈ used zs, i ∈ syms := by
  unfold costE
  by_cases h1 : checkErr cs syms = 0
  · rw [if_neg (by simp [h1])]
    by_cases h2 : errB zs = 0
    · rw [if_neg (by simp [h2])]
      cases h3 : missB (lenF (outWords cs syms)) (enumI zs) with
      | false => exact ⟨fun _ => ⟨h1, h2, (miss_false hcs h1).1 h3⟩, fun _ => rfl⟩
      | true =>
        refine ⟨fun e => absurd e (by decide), fun h => ?_⟩
        rw [(miss_false hcs h1).2 h.2.2] at h3; cases h3
    · rw [if_pos h2]; simp [h2]
  · rw [if_pos h1]; simp [h1]
theorem costV_eq (hcs : cs.length = 16) (h : costE cs syms zs = 0) : costV cs syms zs = (costL zs (tabL cs syms) : Int) := by
  obtain ⟨h1, h2, _⟩ := (costE_zero hcs).1 h
  unfold costV
  rw [if_pos h, cost_eq hcs h1 fun x hx => ((errB_ok h2).2 x hx).1]
end
/-! ### the table of given lengths -/
section
variable {L : Int → Nat} {n : Nat}
theorem mem_upTo {s : Int} : s ∈ upTo n ↔ 0 ≤ s ∧ s < n := by
  simp only [upTo, List.mem_map, List.mem_range]
  constructor
  · rintro ⟨k, hk, rfl⟩; simp; exact hk
  · intro h; exact ⟨s.toNat, by omega, by simp; omega⟩
theorem ordS_all (L : Int → Nat) (n : Nat) : ordS L n 16 0 = (List.range 16).flatMap (selS L n) := by unfold ordS; rw [selS_zero, List.append_nil]
theorem mem_sel {s : Int} {k : Nat} : s ∈ selS L n k ↔ (0 ≤ s ∧ s < n) ∧ L s = k + 1 := by
  unfold selS; rw [List.mem_filter, mem_upTo]; simp
theorem mem_ordS {s : Int} : s ∈ ordS L n 16 0 ↔ (0 ≤ s ∧ s < n) ∧ 1 ≤ L s ∧ L s ≤ 16 := by
  rw [ordS_all, List.mem_flatMap]
  constructor
  · rintro ⟨k, hk, hs⟩
    rw [mem_sel] at hs
    simp at hk
    exact ⟨hs.1, by omega, by omega⟩
  · rintro ⟨h1, h2, h3⟩
    exact ⟨L s - 1, by simp; omega, mem_sel.2 ⟨h1, by omega⟩⟩
theorem ordS_nodup (L : Int → Nat) (n : Nat) : (ordS L n 16 0).Nodup := by
  rw [ordS_all, List.nodup_iff_pairwise_ne, List.pairwise_flatMap]
  refine ⟨fun k _ => ?_, ?_⟩
  · exact List.nodup_iff_pairwise_ne.1 (List.filter_sublist.nodup (nodup_upTo n))
  · refine (List.nodup_iff_pairwise_ne.1 List.nodup_range).imp fun {a b} hab x hx y hy e => hab ?_
    subst e
    rw [mem_sel] at hx hy
    omega
theorem natsC (L : Int → Nat) (n : Nat) : nats (ordC L n 16 0) = (List.range 16).map fun i => (selS L n i).length := by
  unfold nats ordC
  rw [List.map_map]
  refine List.map_congr_left fun i hi => ?_
  simp at hi
  simp [hi]
theorem lensFrom_range (c : Nat → Nat) : ∀ (m k : Nat), lensFrom k ((List.range' k m).map c) = (List.range' k m).flatMap fun i => List.replicate (c i) (i + 1)
  | 0, k => rfl
  | m + 1, k => by
    rw [List.range'_succ, List.map_cons, lensFrom, lensFrom_range c m (k + 1)]
    rfl
theorem ordS_lens (L : Int → Nat) (n : Nat) : (ordS L n 16 0).map L = lensFrom 0 (nats (ordC L n 16 0)) := by
  rw [natsC, ordS_all, List.range_eq_range', lensFrom_range, List.map_flatMap]
  congr 1
  funext k
  rw [List.eq_replicate_iff]
  refine ⟨by simp, fun b hb => ?_⟩
  obtain ⟨s, hs, rfl⟩ := List.mem_map.1 hb
  exact (mem_sel.1 hs).2
theorem ordC_pos (L : Int → Nat) (n : Nat) : ∀ x ∈ ordC L n 16 0, 0 ≤ x ∧ x ≤ n := by
  intro x hx
  simp only [ordC, List.mem_map, List.mem_range] at hx
  obtain ⟨i, hi, rfl⟩ := hx
  rw [if_pos hi]
  have := selS_len L n i
  omega
theorem ordS_short (L : Int → Nat) (n : Nat) : (ordS L n 16 0).length ≤ n := by
  have h1 := sumF_sub (ordS_nodup L n) (m := upTo n) (fun x hx => mem_upTo.2 (mem_ordS.1 hx).1) (fun _ => 1)
  rw [sumF_const, sumF_const, upTo_length] at h1
  omega
theorem ordS_sum (L : Int → Nat) (n : Nat) : sumW (ordC L n 16 0) = ((ordS L n 16 0).length : Int) := by
  rw [← nats_sum fun x hx => (ordC_pos L n x hx).1, natsC, ordS_all, List.length_flatMap]
theorem ord_check (hn : n ≤ 256) (hr : sumF (ordS L n 16 0) (fun s => 2 ^ (16 - L s)) ≤ 65535) : checkErr (ordC L n 16 0) (ordS L n 16 0) = 0 := by
  have hs := ordS_short L n
  refine checkErr_ok ⟨fun x hx => (ordC_pos L n x hx).1, ?_, ordS_sum L n⟩ (fun s hs => ?_) ?_ (ordS_nodup L n)
  · rw [ordS_sum]; omega
  · have := (mem_ordS.1 hs).1; omega
  · rw [codes_room (by rw [nats_length, ordC_length]), roomOf_lens, ← ordS_lens]
    have : sumF ((ordS L n 16 0).map L) (fun n => 2 ^ (16 - n)) = sumF (ordS L n 16 0) (fun s => 2 ^ (16 - L s)) := by simp [sumF, List.map_map, Function.comp_def]
    omega
theorem ord_tabL (h : checkErr (ordC L n 16 0) (ordS L n 16 0) = 0) {s : Int} (hs : s ∈ ordS L n 16 0) : tabL (ordC L n 16 0) (ordS L n 16 0) s = L s := by
  have h1 := (tab_lens h).trans (ordS_lens L n).symm
  exact List.map_inj_left.1 h1 s hs
end
/-- The table that Make hands back. -/
theorem made_of {zs : List Int} (hz : errB zs = 0) {L : Int → Nat} (hL : BestL zs L) :
    (∀ s, s ∈ ordS L zs.length 16 0 ↔ s ∈ used zs) ∧ checkErr (ordC L zs.length 16 0) (ordS L zs.length 16 0) = 0 ∧ costE (ordC L zs.length 16 0) (ordS L zs.length 16 0) zs = 0 ∧ costV (ordC L zs.length 16 0) (ordS L zs.length 16 0) zs = (costL zs L : Int) ∧ ∀ s ∈ used zs, tabL (ordC L zs.length 16 0) (ordS L zs.length 16 0) s = L s := by
  have hn := (errB_ok hz).1
  have hm : ∀ s, s ∈ ordS L zs.length 16 0 ↔ s ∈ used zs := by
    intro s
    rw [mem_ordS]
    constructor
    · rintro ⟨_, h1, _⟩
      refine Classical.byContradiction fun h => ?_
      have := hL.none s h; omega
    · intro h
      have h1 := used_pos h
      exact ⟨⟨h1.1, h1.2.1⟩, hL.code.1 s h⟩
  have hc : checkErr (ordC L zs.length 16 0) (ordS L zs.length 16 0) = 0 := ord_check hn (Nat.le_trans (sumF_sub (ordS_nodup L _) (fun x hx => (hm x).1 hx) _) hL.code.2)
  have ht : ∀ s ∈ used zs, tabL (ordC L zs.length 16 0) (ordS L zs.length 16 0) s = L s := fun s hs => ord_tabL hc ((hm s).2 hs)
  have he : costE (ordC L zs.length 16 0) (ordS L zs.length 16 0) zs = 0 := (costE_zero (ordC_length _ _ _ _)).2 ⟨hc, hz, fun i hi => (hm i).2 hi⟩
  refine ⟨hm, hc, he, ?_, ht⟩
  have hl := ordC_length L zs.length 16 0
  clear hm hc
  generalize ordC L zs.length 16 0 = cs at *
  generalize ordS L zs.length 16 0 = syms at *
  rw [costV_eq hl he]
  have : costL zs (tabL cs syms) = costL zs L := by
    unfold costL
    exact sumF_congr fun i hi => by rw [ht i hi]
  rw [this]
end Go.Proofs.Ythelblkpfkngmaa
