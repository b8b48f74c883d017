/- Texts shared by the claims of this seat, in one. -/
import Derived.Test.YtddkhkpdbjjboaaBd1
import Derived.Test.YtddkhkpdbjjboaaRows
import Derived.Test.YtddkhkpdbjjboaaBd13
import Derived.Test.YtddkhkpdbjjboaaBd15
import Derived.Test.YtddkhkpdbjjboaaBd3
import Derived.Test.YtddkhkpdbjjboaaBd2
import Derived.Test.YtddkhkpdbjjboaaBd14
import Derived.Test.YtddkhkpdbjjboaaBd4
/- best.check: its contract. -/
namespace Go.Proofs.Ytddkhkpdbjjboaa
open Go.RowKit
set_option linter.unusedVariables false
set_option linter.unusedSimpArgs false
set_option maxRecDepth 100000

def outB (x : Int) : Bool := decide (x < 0) || decide (9999 < x)
/-- The error of the counts. -/
def errB (xs : List Int) : Int := if 256 < xs.length then 2 else if xs.any outB then 1 else 0
theorem errB_ok {xs : List Int} (h : errB xs = 0) : xs.length ≤ 256 ∧ ∀ x ∈ xs, 0 ≤ x ∧ x ≤ 9999 := by
  unfold errB at h
  by_cases h1 : 256 < xs.length
  · rw [if_pos h1] at h; omega
  · rw [if_neg h1] at h
    by_cases h2 : xs.any outB = true
    · rw [if_pos h2] at h; omega
    · refine ⟨by omega, fun x hx => ?_⟩
      simp only [List.any_eq_true, not_exists, not_and, outB, Bool.or_eq_true, decide_eq_true_eq] at h2
      have := h2 x hx
      omega
theorem outFn_any (x : Int) (w : World) : Calls Try.prog 77 #[.int .i64 x] w fun e w' => e = .returned (.bool (outB x)) ∧ w = w' := by
  unfold outB
  by_cases h1 : x < 0
  · go_enter Try.func77, Try.ntmps77
    go_wp2
    go_ret
    exact ⟨by simp [h1], rfl⟩
  · by_cases h2 : 9999 < x
    · go_enter Try.func77, Try.ntmps77
      go_wp2
      go_ret
      exact ⟨by simp [h1, h2], rfl⟩
    · go_enter Try.func77, Try.ntmps77
      go_wp2
      go_ret
      exact ⟨by simp [h1, h2], rfl⟩
set_option maxHeartbeats 1000000 in
theorem indexOut_any (A : Option Addr) (c G : Nat) (xs : List Int) (w : World) (hs : Seen w G A (ints .i64 xs)) (hl : xs.length ≤ 1048576) :
    Calls Try.prog 98 #[.slice A xs.length c, .func (.func 77) #[] #[]] w fun e w' => ∃ r : Int, e = .returned (.int .i64 r) ∧ (decide (0 ≤ r) = xs.any outB) ∧ w = w' := by
  go_enter Try.func98, Try.ntmps98
  go_wp2
  go_loopg [5, 8] xs.length (fun gk v5 i wr => ∃ k : Nat, gk = xs.length - k ∧ k ≤ xs.length ∧ i = .int .i64 (k : Int) ∧ w = wr ∧ Hid ((xs.take k).any outB = false))
  case atStart => exact ⟨0, rfl, by omega, rfl, rfl, by simp [Hid]⟩
  case round =>
    obtain ⟨k, rfl, hk, rfl, rfl, H⟩ := hrel
    by_cases hlt : k < xs.length
    · have hltz : (k : Int) < (xs.length : Int) := by omega
      obtain ⟨g, o, x, rfl, hg, hx, hc⟩ := hs.int hlt
      have Hx := veil hx; clear hx
      have HC := veil (outFn_any x w)
      by_cases ho : outB x = true
      · rw [ho] at HC
        go_wp2_with fail
        refine HC.out.mono ?_
        rintro e w' ⟨rfl, rfl⟩
        go_wp2
        go_ret
        refine ⟨_, rfl, ?_, rfl⟩
        have : xs.any outB = true := List.any_eq_true.2 ⟨x, List.mem_of_getElem? Hx.out, ho⟩
        rw [this]; simp
      · have ho : outB x = false := by simpa using ho
        rw [ho] at HC
        go_wp2_with fail
        refine HC.out.mono ?_
        rintro e w' ⟨rfl, rfl⟩
        go_wp2
        go_roundg (xs.length - (k + 1))
        case rel => exact ⟨k + 1, rfl, by omega, by go_num, rfl, by rw [Hid, take_snoc Hx.out, List.any_append, H.out]; simp [ho]⟩
        case measure => omega
    · have hltz : ¬ (k : Int) < (xs.length : Int) := by omega
      go_wp2
      go_ret
      refine ⟨_, rfl, ?_, rfl⟩
      have h1 := H.out
      rw [List.take_of_length_le (by omega)] at h1
      rw [h1]; rfl
set_option maxHeartbeats 1000000 in
theorem containsOut_any (A : Option Addr) (c G : Nat) (xs : List Int) (w : World) (hs : Seen w G A (ints .i64 xs)) (hl : xs.length ≤ 1048576) :
    Calls Try.prog 78 #[.slice A xs.length c, .func (.func 77) #[] #[]] w fun e w' => e = .returned (.bool (xs.any outB)) ∧ w = w' := by
  have HC := veil (indexOut_any A c G xs w hs hl)
  go_enter Try.func78, Try.ntmps78
  go_wp2_with fail
  refine HC.out.mono ?_
  rintro e w' ⟨r, rfl, hr, rfl⟩
  go_wp2
  go_ret
  exact ⟨by simp [← hr], rfl⟩
set_option maxHeartbeats 1000000 in
theorem bcheck_any (A : Option Addr) (c G : Nat) (xs : List Int) (w : World) (hs : Seen w G A (ints .i64 xs)) (hl : xs.length ≤ maxLen) :
    Calls Try.prog 55 #[.slice A xs.length c] w fun e w' => e = .returned (.int .i64 (errB xs)) ∧ w = w' := by
  unfold maxLen at hl
  unfold errB
  by_cases h1 : 256 < xs.length
  · have h1z : (256 : Int) < (xs.length : Int) := by omega
    rw [if_pos h1]
    go_enter Try.func55, Try.ntmps55
    go_wp2
    go_ret
    exact ⟨rfl, rfl⟩
  · have h1z : ¬ (256 : Int) < (xs.length : Int) := by omega
    rw [if_neg h1]
    have HC := veil (containsOut_any A c G xs w hs (by omega))
    by_cases h2 : xs.any outB = true
    · rw [if_pos h2]
      rw [h2] at HC
      clear h2
      go_enter Try.func55, Try.ntmps55
      go_wp2_with fail
      refine HC.out.mono ?_
      rintro e w' ⟨rfl, rfl⟩
      go_wp2
      go_ret
      exact ⟨rfl, rfl⟩
    · rw [if_neg h2]
      have h2 : xs.any outB = false := by simpa using h2
      rw [h2] at HC
      clear h2
      go_enter Try.func55, Try.ntmps55
      go_wp2_with fail
      refine HC.out.mono ?_
      rintro e w' ⟨rfl, rfl⟩
      go_wp2
      go_ret
      exact ⟨rfl, rfl⟩
end Go.Proofs.Ytddkhkpdbjjboaa

/- Codes of least cost, in numbers: what sixteen rounds of merging give, as lengths of the symbols that occur. -/
namespace Go.Proofs.Ytddkhkpdbjjboaa
open Go.RowKit
set_option linter.unusedVariables false
set_option linter.unusedSimpArgs false
set_option maxRecDepth 100000

/-- The symbols that occur. -/
def used (zs : List Int) : List Int := ((enumI zs).filter fun p => decide (0 < p.2)).map (·.1)
/-- How often a symbol occurs. -/
def cntZ (zs : List Int) (i : Int) : Nat := if i < 0 then 0 else (zs[i.toNat]?.getD 0).toNat
/-- The symbols that occur, the last one first, behind the spare one. -/
def idxB (zs : List Int) : List Int := -1 :: (used zs).reverse
theorem enumI_get {zs : List Int} {p : Int × Int} (h : p ∈ enumI zs) : ∃ k : Nat, p.1 = (k : Int) ∧ zs[k]? = some p.2 := by
  obtain ⟨k, hk⟩ := List.mem_iff_getElem?.1 h
  have hl := (List.getElem?_eq_some_iff.1 hk).1
  rw [enumI_length] at hl
  obtain ⟨x, hx⟩ := some_at hl
  rw [enumI_at hx] at hk
  injection hk with hk
  subst hk
  exact ⟨k, rfl, hx⟩
theorem enumI_fst (zs : List Int) : (enumI zs).map (·.1) = (List.range zs.length).map Int.ofNat := by
  apply List.ext_getElem?
  intro i
  by_cases hi : i < zs.length
  · obtain ⟨x, hx⟩ := some_at hi
    rw [List.getElem?_map, enumI_at hx]; simp [hi]
  · rw [List.getElem?_eq_none (by simp [enumI_length]; omega), List.getElem?_eq_none (by simp; omega)]
theorem cntZ_at {zs : List Int} {k : Nat} {x : Int} (h : zs[k]? = some x) : cntZ zs (k : Int) = x.toNat := by
  unfold cntZ; rw [if_neg (by omega)]; simp [h]
theorem nodup_upTo (n : Nat) : ((List.range n).map Int.ofNat).Nodup := by
  rw [List.nodup_iff_pairwise_ne, List.pairwise_map]
  refine (List.nodup_iff_pairwise_ne.1 List.nodup_range).imp fun hab e => hab ?_
  exact Int.ofNat.inj e
theorem used_sub (zs : List Int) : (used zs).Sublist ((enumI zs).map (·.1)) := List.filter_sublist.map _
theorem used_nodup (zs : List Int) : (used zs).Nodup := (used_sub zs).nodup (by rw [enumI_fst]; exact nodup_upTo _)
theorem used_mem {zs : List Int} {i : Int} : i ∈ used zs ↔ ∃ (k : Nat) (x : Int), i = (k : Int) ∧ zs[k]? = some x ∧ 0 < x := by
  constructor
  · intro h
    simp only [used, List.mem_map, List.mem_filter] at h
    obtain ⟨p, ⟨hp, hx⟩, rfl⟩ := h
    obtain ⟨k, h1, h2⟩ := enumI_get hp
    exact ⟨k, p.2, h1, h2, by simpa using hx⟩
  · rintro ⟨k, x, rfl, h1, h2⟩
    simp only [used, List.mem_map, List.mem_filter]
    exact ⟨((k : Int), x), ⟨List.mem_of_getElem? (enumI_at h1), by simpa using h2⟩, rfl⟩
theorem used_len (zs : List Int) : (used zs).length ≤ zs.length := by
  have := (used_sub zs).length_le; rw [List.length_map, enumI_length] at this; exact this
theorem used_pos {zs : List Int} {i : Int} (h : i ∈ used zs) : 0 ≤ i ∧ i < zs.length ∧ 1 ≤ cntZ zs i := by
  obtain ⟨k, x, rfl, h1, h2⟩ := used_mem.1 h
  have := (List.getElem?_eq_some_iff.1 h1).1
  exact ⟨by omega, by omega, by rw [cntZ_at h1]; omega⟩
theorem idxB_nodup (zs : List Int) : (idxB zs).Nodup := by
  refine List.nodup_cons.2 ⟨fun h => ?_, (List.reverse_perm _).nodup_iff.2 (used_nodup zs)⟩
  have := (used_pos (List.mem_reverse.1 h)).1
  omega
theorem cntZ_max {zs : List Int} (h : ∀ x ∈ zs, 0 ≤ x ∧ x ≤ 9999) (i : Int) : cntZ zs i ≤ 9999 := by
  unfold cntZ
  split
  · omega
  · cases hz : zs[i.toNat]? with
    | none => simp
    | some x => have := h x (List.mem_of_getElem? hz); simp; omega
/-- Lengths of a code for the symbols that occur. -/
def CodeL (zs : List Int) (L : Int → Nat) : Prop := (∀ i ∈ used zs, 1 ≤ L i ∧ L i ≤ 16) ∧ sumF (used zs) (fun i => 2 ^ (16 - L i)) ≤ 65535
def costL (zs : List Int) (L : Int → Nat) : Nat := sumF (used zs) fun i => cntZ zs i * L i
/-- .. of least cost. -/
structure BestL (zs : List Int) (L : Int → Nat) : Prop where
  code : CodeL zs L
  none : ∀ i, i ∉ used zs → L i = 0
  least : ∀ L', CodeL zs L' → costL zs L ≤ costL zs L'
/-- The lengths that sixteen rounds give. -/
def lensB (zs : List Int) (l : List Bun) (i : Int) : Nat := if i ∈ used zs then (flatB (l.take (2 * (idxB zs).length - 2))).count i else 0
theorem sumF_rev (l : List Int) (f : Int → Nat) : sumF l.reverse f = sumF l f := sumF_perm (List.reverse_perm l) f
theorem lensB_best {zs : List Int} (h : zs.length ≤ 256) {l : List Bun} (hc : Chain (cntZ zs) (idxB zs) 16 l) : BestL zs (lensB zs l) := by
  have hlen : (idxB zs).length ≤ 512 := by have := used_len zs; simp [idxB]; omega
  obtain ⟨h1, h2, h3⟩ := hc.best (idxB_nodup zs) (by simp [idxB]) hlen
  obtain ⟨N, hN⟩ : ∃ N, N = 2 * (idxB zs).length - 2 := ⟨_, rfl⟩
  rw [← hN] at h1 h2 h3
  have hu : ∀ i ∈ used zs, lensB zs l i = (flatB (l.take N)).count i := fun i hi => by unfold lensB; rw [if_pos hi, ← hN]
  have hsum : sumF (used zs) (fun i => 2 ^ (16 - lensB zs l i)) ≤ 65535 := by
    have h4 := h2.2
    unfold idxB at h4
    rw [sumF_cons, sumF_rev] at h4
    simp only at h4
    have h5 : sumF (used zs) (fun i => 2 ^ (16 - lensB zs l i)) = sumF (used zs) (fun i => 2 ^ (16 - (flatB (l.take N)).count i)) := sumF_congr fun i hi => by rw [hu i hi]
    have h6 := Nat.two_pow_pos (16 - (flatB (l.take N)).count (-1))
    rw [h5]; omega
  refine ⟨⟨fun i hi => ⟨?_, ?_⟩, hsum⟩, fun i hi => by unfold lensB; rw [if_neg hi], fun L' hL' => ?_⟩
  · rcases Nat.eq_zero_or_pos (lensB zs l i) with h0 | h0
    · have := sumF_pos (f := fun i => 2 ^ (16 - lensB zs l i)) i hi
      simp only [h0] at this
      have e : 2 ^ (16 - 0) = 65536 := by decide
      omega
    · exact h0
  · rw [hu i hi]; exact h2.1 i (by simp [idxB, hi])
  · have hne : ∀ i ∈ used zs, i ≠ -1 := fun i hi => by have := (used_pos hi).1; omega
    have h4 := h3 (fun i => if i = -1 then 16 else L' i) ⟨fun i hi => by
      by_cases e : i = -1
      · simp [e]
      · simp only [if_neg e]
        have : i ∈ used zs := by simpa [idxB, e] using hi
        exact (hL'.1 i this).2, by
      unfold idxB
      rw [sumF_cons, sumF_rev]
      simp only [if_true]
      have h5 : sumF (used zs) (fun i => 2 ^ (16 - if i = -1 then 16 else L' i)) = sumF (used zs) (fun i => 2 ^ (16 - L' i)) := sumF_congr fun i hi => by rw [if_neg (hne i hi)]
      rw [h5]
      have := hL'.2
      simp; omega⟩
    unfold idxB at h4
    rw [sumF_cons, sumF_cons, sumF_rev, sumF_rev, show cntZ zs (-1) = 0 from rfl, Nat.zero_mul, Nat.zero_mul, Nat.zero_add, Nat.zero_add] at h4
    unfold costL
    rw [sumF_congr (g := fun i => cntZ zs i * (flatB (l.take N)).count i) fun i hi => by rw [hu i hi]]
    refine Nat.le_trans h4 (Nat.le_of_eq (sumF_congr fun i hi => ?_))
    rw [if_neg (hne i hi)]
theorem lensB_map {zs : List Int} {l : List Bun} (hc : Chain (cntZ zs) (idxB zs) 16 l) (s : Nat) : (cntF (flatB (l.take (2 * (idxB zs).length - 2))) (s : Int)).getD 0 = (lensB zs l (s : Int) : Int) := by
  rw [cntF_getD]
  unfold lensB
  by_cases h : (s : Int) ∈ used zs
  · rw [if_pos h]
  · rw [if_neg h]
    have : (s : Int) ∉ flatB (l.take (2 * (idxB zs).length - 2)) := by
      intro hm
      simp only [flatB, List.mem_flatMap] at hm
      obtain ⟨b, hb, hs⟩ := hm
      have := (hc.each b (List.mem_of_mem_take hb)).2.2 _ hs
      simp only [idxB, List.mem_cons, List.mem_reverse] at this
      rcases this with h1 | h1
      · omega
      · exact h h1
    rw [List.count_eq_zero_of_not_mem this]
/-! ### lengths that serve another list of counts -/
theorem sumF_sub {α : Type} [BEq α] [LawfulBEq α] {l m : List α} (hl : l.Nodup) (h : ∀ x ∈ l, x ∈ m) (f : α → Nat) : sumF l f ≤ sumF m f := by
  induction l generalizing m with
  | nil => simp [sumF]
  | cons a l ih =>
    obtain ⟨h1, h2⟩ := List.nodup_cons.1 hl
    have ha := h a (by simp)
    rw [sumF_cons, sumF_perm (List.perm_cons_erase ha) f, sumF_cons]
    have := ih (m := m.erase a) h2 fun x hx => (List.mem_erase_of_ne (fun e => by subst e; exact h1 hx)).2 (h x (by simp [hx]))
    omega
end Go.Proofs.Ytddkhkpdbjjboaa

/- best.Cost: its contract. -/
namespace Go.Proofs.Ytddkhkpdbjjboaa
open Go.RowKit
set_option linter.unusedVariables false
set_option linter.unusedSimpArgs false
set_option maxRecDepth 100000

/-- The length of a symbol's word. -/
def lenF (ws : List (Int × Nat × Nat)) : Int → Option Int := ws.foldl (fun f t => upd f t.1 (t.2.1 : Int)) (fun _ => none)
theorem lenF_snoc (ws : List (Int × Nat × Nat)) (t : Int × Nat × Nat) : lenF (ws ++ [t]) = upd (lenF ws) t.1 (t.2.1 : Int) := by simp [lenF]
theorem lenF_range {ws : List (Int × Nat × Nat)} (h : ∀ t ∈ ws, t.2.1 ≤ 16) (s : Int) : 0 ≤ (lenF ws s).getD 0 ∧ (lenF ws s).getD 0 ≤ 16 := by
  induction ws using snoc_ind with
  | h0 => simp [lenF]
  | h1 ws t ih =>
    rw [lenF_snoc]
    unfold upd
    have h1 := h t (by simp)
    by_cases e : s = t.1
    · rw [if_pos e]; simp; omega
    · rw [if_neg e]; exact ih fun t ht => h t (by simp [ht])
/-- What the codewords of all occurrences take. -/
def costSum (f : Int → Option Int) (l : List (Int × Int)) : Int := (l.map fun p => p.2 * (f p.1).getD 0).sum
/-- Does one that occurs lack a word? -/
def missB (f : Int → Option Int) (l : List (Int × Int)) : Bool := l.any fun p => decide (0 < p.2) && (f p.1).isNone
def costE (cs syms zs : List Int) : Int := if checkErr cs syms ≠ 0 then checkErr cs syms else if errB zs ≠ 0 then errB zs else if missB (lenF (outWords cs syms)) (enumI zs) then 5 else 0
def costV (cs syms zs : List Int) : Int := if costE cs syms zs = 0 then costSum (lenF (outWords cs syms)) (enumI zs) else 0
theorem words_small {cs syms : List Int} (hcs : cs.length = 16) (h : checkErr cs syms = 0) : ∀ t ∈ outWords cs syms, 0 ≤ t.1 ∧ t.1 ≤ 255 ∧ 1 ≤ t.2.1 ∧ t.2.1 ≤ 16 := by
  obtain ⟨l, hf, e, hl⟩ := fine_of h
  rw [e]
  intro t ht
  have hk := codes_kr (by rw [nats_length]; exact hcs) hf.code
  unfold mkWords at ht
  obtain ⟨i, hi⟩ := List.mem_iff_getElem?.1 ht
  rw [List.getElem?_zipWith] at hi
  cases h1 : syms[i]? with
  | none => simp [h1] at hi
  | some s =>
    cases h2 : l[i]? with
    | none => simp [h1, h2] at hi
    | some p =>
      simp [h1, h2] at hi
      subst hi
      have h3 := hf.ok s (List.mem_of_getElem? h1)
      have h4 := hk.ge p (List.mem_of_getElem? h2)
      exact ⟨h3.1, h3.2, h4.1, h4.2.1⟩
end Go.Proofs.Ytddkhkpdbjjboaa

/- Cells of a table, written. -/
namespace Go.Proofs.Ytddkhkpdbjjboaa
open Go.RowKit
set_option linter.unusedVariables false
set_option linter.unusedSimpArgs false
set_option maxRecDepth 100000

def upTo (n : Nat) : List Int := (List.range n).map Int.ofNat
theorem upTo_length (n : Nat) : (upTo n).length = n := by simp [upTo]
theorem upTo_succ (n : Nat) : upTo (n + 1) = upTo n ++ [(n : Int)] := by simp [upTo, List.range_succ]
theorem tab_set_count {cs : List Int} {A : Option Addr} {n c k : Nat} {x : Int} (hk : k < cs.length) : (tabCells cs A n c).set k (.int .i64 x) = tabCells (cs.set k x) A n c := by
  unfold tabCells
  rw [List.set_append_left _ _ (by rw [ints_length]; exact hk)]
  simp [ints, List.map_set]
theorem tab_set_syms {cs : List Int} {A A' : Option Addr} {n n' c c' : Nat} (h : cs.length = 16) : (tabCells cs A n c).set 16 (.slice A' n' c') = tabCells cs A' n' c' := by
  unfold tabCells; rw [List.set_append_right _ _ (by rw [ints_length]; omega), ints_length, h]; rfl
theorem tab_count {cs : List Int} {A : Option Addr} {n c k : Nat} {x : Int} (h : cs[k]? = some x) : (tabCells cs A n c)[k]? = some (.int .i64 x) := by
  unfold tabCells
  rw [List.getElem?_append_left (by rw [ints_length]; exact (List.getElem?_eq_some_iff.1 h).1)]
  exact ints_at h
end Go.Proofs.Ytddkhkpdbjjboaa

/- best.ordered: its contract. -/
namespace Go.Proofs.Ytddkhkpdbjjboaa
open Go.RowKit
set_option linter.unusedVariables false
set_option linter.unusedSimpArgs false
set_option maxRecDepth 100000

/-- The symbols below j whose length is i + 1. -/
def selS (L : Int → Nat) (j i : Nat) : List Int := (upTo j).filter fun s => L s == i + 1
/-- The symbols in the table's order: k lengths are over, j symbols of the next. -/
def ordS (L : Int → Nat) (n k j : Nat) : List Int := (List.range k).flatMap (selS L n) ++ selS L j k
/-- The counts. -/
def ordC (L : Int → Nat) (n k j : Nat) : List Int := (List.range 16).map fun i => if i < k then ((selS L n i).length : Int) else if i = k then ((selS L j i).length : Int) else 0
section
variable {L : Int → Nat} {n k j : Nat}
theorem selS_zero (L : Int → Nat) (i : Nat) : selS L 0 i = [] := rfl
theorem selS_yes (h : L (j : Int) = k + 1) : selS L (j + 1) k = selS L j k ++ [(j : Int)] := by
  unfold selS; rw [upTo_succ, List.filter_append]; simp [h]
theorem selS_no (h : L (j : Int) ≠ k + 1) : selS L (j + 1) k = selS L j k := by
  unfold selS; rw [upTo_succ, List.filter_append]; simp [h]
theorem selS_len (L : Int → Nat) (j i : Nat) : (selS L j i).length ≤ j := by
  unfold selS; have := List.length_filter_le (fun s => L s == i + 1) (upTo j); rw [upTo_length] at this; exact this
theorem ordS_yes (h : L (j : Int) = k + 1) : ordS L n k (j + 1) = ordS L n k j ++ [(j : Int)] := by
  unfold ordS; rw [selS_yes h, List.append_assoc]
theorem ordS_no (h : L (j : Int) ≠ k + 1) : ordS L n k (j + 1) = ordS L n k j := by
  unfold ordS; rw [selS_no h]
theorem ordS_next : ordS L n (k + 1) 0 = ordS L n k n := by
  unfold ordS; rw [List.range_succ, List.flatMap_append, selS_zero]; simp
theorem ordC_next : ordC L n (k + 1) 0 = ordC L n k n := by
  unfold ordC
  refine List.map_congr_left fun i _ => ?_
  rw [selS_zero]
  by_cases h1 : i < k
  · rw [if_pos (by omega), if_pos h1]
  · by_cases h2 : i = k
    · subst h2; rw [if_pos (by omega), if_neg (by omega), if_pos rfl]
    · rw [if_neg (by omega), if_neg h1, if_neg h2]; split <;> rfl
theorem ordC_length (L : Int → Nat) (n k j : Nat) : (ordC L n k j).length = 16 := by simp [ordC]
theorem ordC_at (h : k < 16) : (ordC L n k j)[k]? = some ((selS L j k).length : Int) := by
  unfold ordC; simp [h]
theorem ordC_no (h : L (j : Int) ≠ k + 1) : ordC L n k (j + 1) = ordC L n k j := by
  unfold ordC
  refine List.map_congr_left fun i _ => ?_
  by_cases h2 : i = k
  · subst h2; rw [selS_no h]
  · rw [if_neg h2, if_neg h2]
theorem ordC_yes (hk : k < 16) (h : L (j : Int) = k + 1) : ordC L n k (j + 1) = (ordC L n k j).set k (((selS L j k).length : Int) + 1) := by
  apply List.ext_getElem?
  intro i
  rw [List.getElem?_set]
  by_cases e : k = i
  · subst e
    rw [if_pos rfl, ordC_at hk, selS_yes h, if_pos (by rw [ordC_length]; exact hk)]
    simp
  · rw [if_neg e]
    unfold ordC
    simp only [List.getElem?_map]
    by_cases hi : i < 16
    · simp [hi, show ¬ i = k from fun h => e h.symm]
    · simp [hi]
theorem flatMap_len {α β : Type} (l : List α) (f : α → List β) (m : Nat) (h : ∀ x ∈ l, (f x).length ≤ m) : (l.flatMap f).length ≤ m * l.length := by
  induction l with
  | nil => simp
  | cons a l ih =>
    have h1 := h a (by simp)
    have h2 := ih fun x hx => h x (by simp [hx])
    simp only [List.flatMap_cons, List.length_append, List.length_cons, Nat.mul_add]; omega
theorem ordS_len (hk : k ≤ 16) (hj : j ≤ n) (hn : n ≤ 256) : (ordS L n k j).length ≤ 8192 := by
  unfold ordS
  have h1 := flatMap_len (List.range k) (selS L n) n fun i _ => selS_len L n i
  have h2 := selS_len L j k
  rw [List.length_range] at h1
  have h3 : n * k ≤ 256 * 16 := Nat.mul_le_mul hn hk
  rw [List.length_append]; omega
end
theorem size_setCell (w : World) (a : Addr) (v : Value) : (w.setCell a v).heap.size = w.heap.size := by simp [World.setCell]
theorem ordC_zero (L : Int → Nat) (n : Nat) : ordC L n 0 0 = List.replicate 16 0 := by
  unfold ordC
  apply List.ext_getElem?
  intro i
  by_cases hi : i < 16
  · simp only [List.getElem?_map, List.getElem?_range hi, List.getElem?_replicate, if_pos hi, Option.map_some, selS_zero]; simp
  · simp [hi]
theorem ordS_zero (L : Int → Nat) (n : Nat) : ordS L n 0 0 = [] := by simp [ordS, selS_zero]
def tab0 (w : World) : World := w.alloc (.cells (tabCells (List.replicate 16 0) none 0 0).toArray 25)
theorem tab0_size (w : World) : (tab0 w).heap.size = w.heap.size + 1 := by simp [tab0]
/-- What both loops hold. -/
def TabIs (W : World) (cs ss : List Int) (w : World) : Prop :=
  ∃ A c, Blk w (W.heap.size + 1) (tabCells cs A ss.length c) 25 ∧ Owns (W.heap.size + 2) [intRow 3 .i64 (.slice A ss.length c) ss] w ∧ Below (W.heap.size + 1) (tab0 W) w

set_option maxHeartbeats 4000000 in
set_option maxRecDepth 100000 in
theorem ordered_any (mb n N : Nat) (f : Int → Option Int) (L : Int → Nat) (w : World) (HM : MapN w mb N f) (hf : ∀ s : Nat, s < n → (f (s : Int)).getD 0 = (L (s : Int) : Int)) (hn : n ≤ 256) :
    Calls Try.prog 56 #[.map (some mb), .int .i64 n] w fun e w' => ∃ A c, e = .returned (tabV (ordC L n 16 0) A (ordS L n 16 0).length c) ∧ Owns w.heap.size [intRow 3 .i64 (.slice A (ordS L n 16 0).length c) (ordS L n 16 0)] w' ∧ Below w.heap.size w w' := by
  have Hf := veil hf; clear hf
  have hmb := HM.lt
  have hb0 : Below w.heap.size w (tab0 w) := below1 _ _
  have hst : TabIs w (ordC L n 0 0) (ordS L n 0 0) ((tab0 w).alloc (.cells (tabCells (List.replicate 16 0) none 0 0).toArray 25)) := by
    rw [ordC_zero, ordS_zero]
    refine ⟨none, 0, ?_, ?_, ?_⟩
    · have := Blk.new (tab0 w) (tabCells (List.replicate 16 0) none 0 0) 25
      rw [tab0_size] at this; exact this
    · exact (Owns.nil (by simp [tab0_size])).fresh _ _
    · have := below1 (tab0 w) (.cells (tabCells (List.replicate 16 0) none 0 0).toArray 25)
      rw [tab0_size] at this; exact this
  have Hst := veil hst; clear hst
  go_enter Try.func56, Try.ntmps56
  go_wp2
  go_loopg [8] 16 (fun gk i wr => ∃ k : Nat, gk = 16 - k ∧ k ≤ 16 ∧ i = .int .i64 (k : Int) ∧ TabIs w (ordC L n k 0) (ordS L n k 0) wr)
  case atStart => exact ⟨0, rfl, by omega, rfl, Hst.out⟩
  case round =>
    clear Hst
    obtain ⟨k, rfl, hk, rfl, hT⟩ := hrel
    have HT := veil hT; clear hT
    by_cases hlt : k < 16
    · have hltz : (k : Int) < 16 := by omega
      go_wp2_with fail
      go_loopg [12] n (fun gk i wr => ∃ j : Nat, gk = n - j ∧ j ≤ n ∧ i = .int .i64 (j : Int) ∧ TabIs w (ordC L n k j) (ordS L n k j) wr)
      case atStart => exact ⟨0, rfl, by omega, rfl, HT.out⟩
      case round =>
        clear HT
        obtain ⟨j, rfl, hj, rfl, A2, c2, HB, HO, hbel⟩ := hrel
        have hbw : Below w.heap.size w wr := hb0.trans (hbel.mono (by omega))
        have HMr := HM.below hbw hmb
        have hss := ordS_len (L := L) hk hj hn
        by_cases hjn : j < n
        · have hjz : (j : Int) < (n : Int) := by omega
          have hlk := HMr.look1 (x := (j : Int)) (wf_of (by omega))
          rw [Hf.out j hjn] at hlk
          by_cases hq : L (j : Int) = k + 1
          · rw [hq, show ((k + 1 : Nat) : Int) = (k : Int) + 1 by omega] at hlk
            have HB1 := veil (show Blk (wr.setCell ⟨w.heap.size + 1, k, none⟩ (.int .i64 (((selS L j k).length : Int) + 1))) (w.heap.size + 1) (tabCells (ordC L n k (j + 1)) A2 (ordS L n k j).length c2) 25 by
              have h5 := HB.set k (.int .i64 (((selS L j k).length : Int) + 1))
              rw [tab_set_count (by rw [ordC_length]; exact hlt), ← ordC_yes hlt hq] at h5
              exact h5)
            have HO1 : Owns (w.heap.size + 2) [intRow 3 .i64 (.slice A2 (ordS L n k j).length c2) (ordS L n k j)] (wr.setCell ⟨w.heap.size + 1, k, none⟩ (.int .i64 (((selS L j k).length : Int) + 1))) := HO.setCell (by simp) _
            have hb1 : Below (w.heap.size + 1) (tab0 w) (wr.setCell ⟨w.heap.size + 1, k, none⟩ (.int .i64 (((selS L j k).length : Int) + 1))) := hbel.setCell (by simp) _
            have dk := HB.cell (tab_count (A := A2) (n := (ordS L n k j).length) (c := c2) (ordC_at (L := L) (n := n) (j := j) hlt))
            have fk := HB.frozen k
            have d16 := HB.cell (tabCells_last (A := A2) (n := (ordS L n k j).length) (c := c2) (ordC_length L n k j))
            have f16 := HB.frozen 16
            have hk16 : ¬ k = 16 := by omega
            have hsl := selS_len L j k
            have HOy := veil (ordS_yes (L := L) (n := n) hq)
            have hwb := HB.lt
            have Hbel := veil hbel
            clear HB HO hq HMr hbel hbw
            generalize (selS L j k).length = q at *
            generalize ordS L n k j = ss at *
            go_wp2_with (first
              | (at_builtin; go_loud (refine wpList_ownS _ rfl (.tmp 29) (.tmp 31) _ rfl (w.heap.size + 2) 3 .i64 8 elemN (.slice A2 ss.length c2) ss [] rfl HO1 [_] (ss.length + 1) rfl (by rw [size_setCell]; rfl) (by unfold maxLen; simp; omega) (by simp; omega) ?_); intro A4 c4 w4 HO4 hb4 hz4; have HB4 := HB1.out.below hb4 (Nat.lt_succ_self _); have d16' := HB4.cell (tabCells_last (ordC_length L n k (j + 1))); have f16' := HB4.frozen 16)
              | fail)
            have HB5 : Blk (w4.setCell ⟨w.heap.size + 1, 16, none⟩ (.slice A4 (ss.length + 1) c4)) (w.heap.size + 1) (tabCells (ordC L n k (j + 1)) A4 (ss ++ [(j : Int)]).length c4) 25 := by
              have h5 := HB4.set 16 (.slice A4 (ss.length + 1) c4)
              rw [tab_set_syms (ordC_length L n k (j + 1))] at h5
              rw [List.length_append]; exact h5
            have HO5 : Owns (w.heap.size + 2) [intRow 3 .i64 (.slice A4 (ss ++ [(j : Int)]).length c4) (ss ++ [(j : Int)])] (w4.setCell ⟨w.heap.size + 1, 16, none⟩ (.slice A4 (ss.length + 1) c4)) := by
              have h5 := HO4.setCell (a := ⟨w.heap.size + 1, 16, none⟩) (by simp) (.slice A4 (ss.length + 1) c4)
              rw [List.length_append]; exact h5
            have hb5 : Below (w.heap.size + 1) (tab0 w) (w4.setCell ⟨w.heap.size + 1, 16, none⟩ (.slice A4 (ss.length + 1) c4)) := (hb1.trans (hb4.mono (by omega))).setCell (by simp) _
            go_roundg (n - (j + 1))
            case rel => exact ⟨j + 1, rfl, by omega, by go_num, A4, c4, by rw [HOy.out]; exact HB5, by rw [HOy.out]; exact HO5, hb5⟩
            case measure => omega
          · have hne : ((L (j : Int) : Int) == (k : Int) + 1) = false := by simp; omega
            have HT : Hid (TabIs w (ordC L n k (j + 1)) (ordS L n k (j + 1)) wr) := by
              rw [ordC_no hq, ordS_no hq]; exact ⟨A2, c2, HB, HO, hbel⟩
            clear HB HO hq HMr hbel hbw
            generalize L (j : Int) = q at *
            go_wp2_with fail
            go_roundg (n - (j + 1))
            case rel => exact ⟨j + 1, rfl, by omega, by go_num, HT.out⟩
            case measure => omega
        · have hjz : ¬ (j : Int) < (n : Int) := by omega
          obtain rfl : j = n := by omega
          have HT : Hid (TabIs w (ordC L j (k + 1) 0) (ordS L j (k + 1) 0) wr) := by
            rw [ordC_next, ordS_next]; exact ⟨A2, c2, HB, HO, hbel⟩
          clear HB HO HMr hbel hbw
          go_wp2_with fail
          go_roundg (16 - (k + 1))
          case rel => exact ⟨k + 1, rfl, by omega, by go_num, HT.out⟩
          case measure => omega
    · have hltz : ¬ (k : Int) < 16 := by omega
      have HK : Hid (k = 16) := by show k = 16; omega
      obtain ⟨A2, c2, HB, HO, hbel⟩ := HT.out
      have hbw : Below w.heap.size w wr := hb0.trans (hbel.mono (by omega))
      have HB0 : Blk wr w.heap.size (tabCells (List.replicate 16 0) none 0 0) 25 := (Blk.new w (tabCells (List.replicate 16 0) none 0 0) 25).below hbel (Nat.lt_succ_self _)
      rw [HK.out] at HB HO
      have hl17 := tabCells_length (A := A2) (n := (ordS L n 16 0).length) (c := c2) (ordC_length L n 16 0)
      have Hl := veil hl17
      have hone := tabCells_one (cs := ordC L n 16 0) (A := A2) (n := (ordS L n 16 0).length) (c := c2)
      have hrl : (List.replicate 16 (0 : Int)).length = 16 := by simp
      have Hl0 := veil (tabCells_length (A := none) (n := 0) (c := 0) hrl)
      clear HT hrl
      obtain ⟨xs, hxs⟩ : ∃ xs, xs = tabCells (ordC L n 16 0) A2 (ordS L n 16 0).length c2 := ⟨_, rfl⟩
      obtain ⟨x0, hx0⟩ : ∃ xs, xs = tabCells (List.replicate 16 0) none 0 0 := ⟨_, rfl⟩
      rw [← hxs] at HB hl17 Hl hone
      rw [← hx0] at HB0 Hl0
      have HX := veil hxs
      clear hxs hx0 hl17
      go_wp2_with (first
        | (refine wpList_load_mid rfl 25 (.tmp 5) rfl (w.heap.size + 1) 0 rfl xs _ HB.range Try.underlying25 rfl (by rw [Hl.out]; exact info_tab) ?_)
        | (refine wpList_store_blk wr rfl 25 (.tmp 4) (.tmp 36) rfl w.heap.size x0 xs 25 HB0 rfl rfl (by rw [Hl.out]; exact info_tab) (by rw [Hl.out, Hl0.out]) hone ?_; intro w5 HB5 hg5)
        | fail)
      refine bodyPost_ret (v := .agg xs.toArray) (results_cell_row rfl _ _ w.heap.size 25 xs.toArray (0, 0) _ rfl HB5 Try.underlying25 rfl (by simp only [List.size_toArray]; rw [Hl.out]; exact info_tab)) rfl ⟨A2, c2, by rw [HX.out], (HO.kept hg5 (by omega)).down (by omega), hbw.grown hg5 hbw.size (fun j hj => by injection hj with hj; omega)⟩
end Go.Proofs.Ytddkhkpdbjjboaa

/- Tables and the lengths of their words: a table that may be leaves room; the table made of lengths has just these. -/
namespace Go.Proofs.Ytddkhkpdbjjboaa
open Go.RowKit
set_option linter.unusedVariables false
set_option linter.unusedSimpArgs false
set_option maxRecDepth 100000

/-- The lengths of the words of these counts. -/
def lensFrom : Nat → List Nat → List Nat
  | _, [] => []
  | k, n :: ns => List.replicate n (k + 1) ++ lensFrom (k + 1) ns
theorem codesFrom_lens : ∀ (ns : List Nat) (k c : Nat) (l : List (Nat × Nat)), codesFrom k c ns = some l → l.map (·.1) = lensFrom k ns := by
  intro ns
  induction ns with
  | nil => intro k c l h; simp [codesFrom] at h; subst h; rfl
  | cons n ns ih =>
    intro k c l h
    unfold codesFrom at h
    split at h
    · cases hq : codesFrom (k + 1) (2 * (c + n)) ns with
      | none => simp [hq] at h
      | some m =>
        simp [hq] at h
        subst h
        rw [List.map_append, ih _ _ _ hq, lensFrom]
        congr 1
        rw [List.map_map, List.eq_replicate_iff]
        refine ⟨by simp, ?_⟩
        intro b hb
        simp at hb
        exact hb.2.symm
    · cases h
theorem roomOf_lens : ∀ (ns : List Nat) (k : Nat), roomOf k ns = sumF (lensFrom k ns) (fun n => 2 ^ (16 - n))
  | [], k => rfl
  | n :: ns, k => by
    rw [roomOf, lensFrom, sumF_append, roomOf_lens ns (k + 1)]
    congr 1
    have : sumF (List.replicate n (k + 1)) (fun n => 2 ^ (16 - n)) = n * 2 ^ (16 - (k + 1)) := by simp [sumF, List.map_replicate, List.sum_replicate_nat]
    rw [this, show 16 - (k + 1) = 15 - k by omega]
/-! ### which length a symbol has -/
theorem lenF_none {ws : List (Int × Nat × Nat)} {s : Int} (h : s ∉ ws.map (·.1)) : lenF ws s = none := by
  induction ws using snoc_ind with
  | h0 => rfl
  | h1 ws t ih =>
    rw [lenF_snoc]
    simp only [List.map_append, List.mem_append, not_or] at h
    unfold upd
    rw [if_neg (by intro e; apply h.2; simp [e]), ih h.1]
theorem lenF_mem {ws : List (Int × Nat × Nat)} (hn : (ws.map (·.1)).Nodup) {t : Int × Nat × Nat} (h : t ∈ ws) : lenF ws t.1 = some (t.2.1 : Int) := by
  induction ws using snoc_ind with
  | h0 => cases h
  | h1 ws u ih =>
    rw [lenF_snoc]
    rw [List.map_append, List.nodup_append] at hn
    unfold upd
    rcases List.mem_append.1 h with h | h
    · rw [if_neg (hn.2.2 _ (List.mem_map_of_mem h) _ (by simp)), ih hn.1 h]
    · simp at h; subst h; simp
/-- The length that a table gives a symbol; 0 if it gives none. -/
def tabL (cs syms : List Int) (s : Int) : Nat := ((lenF (outWords cs syms) s).getD 0).toNat
section
variable {cs syms zs : List Int}
theorem tab_some (hcs : cs.length = 16) (h : checkErr cs syms = 0) {s : Int} (hs : s ∈ syms) : ∃ n : Nat, lenF (outWords cs syms) s = some (n : Int) ∧ 1 ≤ n ∧ n ≤ 16 := by
  obtain ⟨l, hf, e, hl⟩ := fine_of h
  have hm : (outWords cs syms).map (·.1) = syms := by rw [e]; exact mkWords_fst hl
  rw [← hm] at hs
  obtain ⟨t, ht, rfl⟩ := List.mem_map.1 hs
  have hw := words_small hcs h t ht
  exact ⟨t.2.1, lenF_mem (by rw [hm]; exact hf.nodup) ht, hw.2.2.1, hw.2.2.2⟩
theorem tab_none (h : checkErr cs syms = 0) {s : Int} (hs : s ∉ syms) : lenF (outWords cs syms) s = none := by
  obtain ⟨l, hf, e, hl⟩ := fine_of h
  have hm : (outWords cs syms).map (·.1) = syms := by rw [e]; exact mkWords_fst hl
  exact lenF_none (by rw [hm]; exact hs)
theorem tab_lens (h : checkErr cs syms = 0) : syms.map (tabL cs syms) = lensFrom 0 (nats cs) := by
  obtain ⟨l, hf, e, hl⟩ := fine_of h
  have hm : (outWords cs syms).map (·.1) = syms := by rw [e]; exact mkWords_fst hl
  rw [← codesFrom_lens (nats cs) 0 0 l hf.code]
  apply List.ext_getElem?
  intro i
  by_cases hi : i < syms.length
  · obtain ⟨s, hs⟩ := some_at hi
    obtain ⟨p, hp⟩ := some_at (xs := l) (j := i) (by omega)
    have ht : (s, p.1, p.2) ∈ outWords cs syms := by
      rw [e]
      refine List.mem_of_getElem? (i := i) ?_
      unfold mkWords
      rw [List.getElem?_zipWith, hs, hp]
    have := lenF_mem (by rw [hm]; exact hf.nodup) ht
    rw [List.getElem?_map, List.getElem?_map, hs, hp]
    simp only [Option.map_some, tabL]
    simp only at this
    rw [this]; simp
  · rw [List.getElem?_eq_none (by simp; omega), List.getElem?_eq_none (by simp; omega)]
/-! ### what a table costs -/
theorem costSum_eq {f : Int → Option Int} (hf : ∀ s, 0 ≤ (f s).getD 0) (l : List (Int × Int)) (h : ∀ p ∈ l, 0 ≤ p.2) : costSum f l = ((sumF (l.filter fun p => decide (0 < p.2)) fun p => p.2.toNat * ((f p.1).getD 0).toNat : Nat) : Int) := by
  induction l with
  | nil => rfl
  | cons p l ih =>
    have h1 := ih fun q hq => h q (by simp [hq])
    have h2 := h p (by simp)
    have e : costSum f (p :: l) = p.2 * (f p.1).getD 0 + costSum f l := by simp [costSum]
    rw [e, h1]
    by_cases hp : 0 < p.2
    · rw [List.filter_cons_of_pos (by simpa using hp), sumF_cons, Int.natCast_add, Int.natCast_mul]
      have e1 : ((p.2.toNat : Nat) : Int) = p.2 := by omega
      have e2 : ((((f p.1).getD 0).toNat : Nat) : Int) = (f p.1).getD 0 := by have := hf p.1; omega
      rw [e1, e2]
    · rw [List.filter_cons_of_neg (by simpa using hp), show p.2 = 0 by omega]; simp
theorem cost_eq (hcs : cs.length = 16) (h : checkErr cs syms = 0) (hz : ∀ x ∈ zs, 0 ≤ x) : costSum (lenF (outWords cs syms)) (enumI zs) = (costL zs (tabL cs syms) : Int) := by
  rw [costSum_eq (fun s => (lenF_range (fun t ht => (words_small hcs h t ht).2.2.2) s).1) _ (fun p hp => by
    obtain ⟨k, _, h2⟩ := enumI_get hp; exact hz _ (List.mem_of_getElem? h2))]
  congr 1
  unfold costL used
  rw [show sumF (((enumI zs).filter fun p => decide (0 < p.2)).map (·.1)) (fun i => cntZ zs i * tabL cs syms i) = sumF ((enumI zs).filter fun p => decide (0 < p.2)) (fun p => cntZ zs p.1 * tabL cs syms p.1) by simp [sumF, List.map_map, Function.comp_def]]
  refine sumF_congr fun p hp => ?_
  obtain ⟨k, h1, h2⟩ := enumI_get (List.mem_filter.1 hp).1
  rw [h1, cntZ_at h2]; rfl
theorem miss_false (hcs : cs.length = 16) (h : checkErr cs syms = 0) : missB (lenF (outWords cs syms)) (enumI zs) = false ↔ ∀ i ∈ used zs, i ∈ syms := by
  unfold missB
  rw [List.any_eq_false]
  constructor
  · intro h1 i hi
    refine Classical.byContradiction fun hn => ?_
    obtain ⟨k, x, rfl, h2, h3⟩ := used_mem.1 hi
    exact h1 _ (List.mem_of_getElem? (enumI_at h2)) (by simp [h3, tab_none h hn])
  · intro h1 p hp hc
    simp only [Bool.and_eq_true, decide_eq_true_eq, Option.isNone_iff_eq_none] at hc
    obtain ⟨k, h2, h3⟩ := enumI_get hp
    have hu : p.1 ∈ used zs := used_mem.2 ⟨k, p.2, h2, h3, hc.1⟩
    obtain ⟨n, h4, _⟩ := tab_some hcs h (h1 _ hu)
    rw [h4] at hc; simp at hc
theorem costE_zero (hcs : cs.length = 16) : costE cs syms zs = 0 ↔ checkErr cs syms = 0 ∧ errB zs = 0 ∧ ∀ i ∈ used zs, i ∈ syms := by
  unfold costE
  by_cases h1 : checkErr cs syms = 0
  · rw [if_neg (by simp [h1])]
    by_cases h2 : errB zs = 0
    · rw [if_neg (by simp [h2])]
      cases h3 : missB (lenF (outWords cs syms)) (enumI zs) with
      | false => exact ⟨fun _ => ⟨h1, h2, (miss_false hcs h1).1 h3⟩, fun _ => rfl⟩
      | true =>
        refine ⟨fun e => absurd e (by decide), fun h => ?_⟩
        rw [(miss_false hcs h1).2 h.2.2] at h3; cases h3
    · rw [if_pos h2]; simp [h2]
  · rw [if_pos h1]; simp [h1]
theorem costV_eq (hcs : cs.length = 16) (h : costE cs syms zs = 0) : costV cs syms zs = (costL zs (tabL cs syms) : Int) := by
  obtain ⟨h1, h2, _⟩ := (costE_zero hcs).1 h
  unfold costV
  rw [if_pos h, cost_eq hcs h1 fun x hx => ((errB_ok h2).2 x hx).1]
end
/-! ### the table of given lengths -/
section
variable {L : Int → Nat} {n : Nat}
theorem mem_upTo {s : Int} : s ∈ upTo n ↔ 0 ≤ s ∧ s < n := by
  simp only [upTo, List.mem_map, List.mem_range]
  constructor
  · rintro ⟨k, hk, rfl⟩; simp; exact hk
  · intro h; exact ⟨s.toNat, by omega, by simp; omega⟩
theorem ordS_all (L : Int → Nat) (n : Nat) : ordS L n 16 0 = (List.range 16).flatMap (selS L n) := by unfold ordS; rw [selS_zero, List.append_nil]
theorem mem_sel {s : Int} {k : Nat} : s ∈ selS L n k ↔ (0 ≤ s ∧ s < n) ∧ L s = k + 1 := by
  unfold selS; rw [List.mem_filter, mem_upTo]; simp
theorem mem_ordS {s : Int} : s ∈ ordS L n 16 0 ↔ (0 ≤ s ∧ s < n) ∧ 1 ≤ L s ∧ L s ≤ 16 := by
  rw [ordS_all, List.mem_flatMap]
  constructor
  · rintro ⟨k, hk, hs⟩
    rw [mem_sel] at hs
    simp at hk
    exact ⟨hs.1, by omega, by omega⟩
  · rintro ⟨h1, h2, h3⟩
    exact ⟨L s - 1, by simp; omega, mem_sel.2 ⟨h1, by omega⟩⟩
theorem ordS_nodup (L : Int → Nat) (n : Nat) : (ordS L n 16 0).Nodup := by
  rw [ordS_all, List.nodup_iff_pairwise_ne, List.pairwise_flatMap]
  refine ⟨fun k _ => ?_, ?_⟩
  · exact List.nodup_iff_pairwise_ne.1 (List.filter_sublist.nodup (nodup_upTo n))
  · refine (List.nodup_iff_pairwise_ne.1 List.nodup_range).imp fun {a b} hab x hx y hy e => hab ?_
    subst e
    rw [mem_sel] at hx hy
    omega
theorem natsC (L : Int → Nat) (n : Nat) : nats (ordC L n 16 0) = (List.range 16).map fun i => (selS L n i).length := by
  unfold nats ordC
  rw [List.map_map]
  refine List.map_congr_left fun i hi => ?_
  simp at hi
  simp [hi]
theorem lensFrom_range (c : Nat → Nat) : ∀ (m k : Nat), lensFrom k ((List.range' k m).map c) = (List.range' k m).flatMap fun i => List.replicate (c i) (i + 1)
  | 0, k => rfl
  | m + 1, k => by
    rw [List.range'_succ, List.map_cons, lensFrom, lensFrom_range c m (k + 1)]
    rfl
theorem ordS_lens (L : Int → Nat) (n : Nat) : (ordS L n 16 0).map L = lensFrom 0 (nats (ordC L n 16 0)) := by
  rw [natsC, ordS_all, List.range_eq_range', lensFrom_range, List.map_flatMap]
  congr 1
  funext k
  rw [List.eq_replicate_iff]
  refine ⟨by simp, fun b hb => ?_⟩
  obtain ⟨s, hs, rfl⟩ := List.mem_map.1 hb
  exact (mem_sel.1 hs).2
theorem ordC_pos (L : Int → Nat) (n : Nat) : ∀ x ∈ ordC L n 16 0, 0 ≤ x ∧ x ≤ n := by
  intro x hx
  simp only [ordC, List.mem_map, List.mem_range] at hx
  obtain ⟨i, hi, rfl⟩ := hx
  rw [if_pos hi]
  have := selS_len L n i
  omega
theorem ordS_short (L : Int → Nat) (n : Nat) : (ordS L n 16 0).length ≤ n := by
  have h1 := sumF_sub (ordS_nodup L n) (m := upTo n) (fun x hx => mem_upTo.2 (mem_ordS.1 hx).1) (fun _ => 1)
  rw [sumF_const, sumF_const, upTo_length] at h1
  omega
theorem ordS_sum (L : Int → Nat) (n : Nat) : sumW (ordC L n 16 0) = ((ordS L n 16 0).length : Int) := by
  rw [← nats_sum fun x hx => (ordC_pos L n x hx).1, natsC, ordS_all, List.length_flatMap]
theorem ord_check (hn : n ≤ 256) (hr : sumF (ordS L n 16 0) (fun s => 2 ^ (16 - L s)) ≤ 65535) : checkErr (ordC L n 16 0) (ordS L n 16 0) = 0 := by
  have hs := ordS_short L n
  refine checkErr_ok ⟨fun x hx => (ordC_pos L n x hx).1, ?_, ordS_sum L n⟩ (fun s hs => ?_) ?_ (ordS_nodup L n)
  · rw [ordS_sum]; omega
  · have := (mem_ordS.1 hs).1; omega
  · rw [codes_room (by rw [nats_length, ordC_length]), roomOf_lens, ← ordS_lens]
    have : sumF ((ordS L n 16 0).map L) (fun n => 2 ^ (16 - n)) = sumF (ordS L n 16 0) (fun s => 2 ^ (16 - L s)) := by simp [sumF, List.map_map, Function.comp_def]
    omega
theorem ord_tabL (h : checkErr (ordC L n 16 0) (ordS L n 16 0) = 0) {s : Int} (hs : s ∈ ordS L n 16 0) : tabL (ordC L n 16 0) (ordS L n 16 0) s = L s := by
  have h1 := (tab_lens h).trans (ordS_lens L n).symm
  exact List.map_inj_left.1 h1 s hs
end
/-- The table that Make hands back. -/
theorem made_of {zs : List Int} (hz : errB zs = 0) {L : Int → Nat} (hL : BestL zs L) :
    (∀ s, s ∈ ordS L zs.length 16 0 ↔ s ∈ used zs) ∧ checkErr (ordC L zs.length 16 0) (ordS L zs.length 16 0) = 0 ∧ costE (ordC L zs.length 16 0) (ordS L zs.length 16 0) zs = 0 ∧ costV (ordC L zs.length 16 0) (ordS L zs.length 16 0) zs = (costL zs L : Int) ∧ ∀ s ∈ used zs, tabL (ordC L zs.length 16 0) (ordS L zs.length 16 0) s = L s := by
  have hn := (errB_ok hz).1
  have hm : ∀ s, s ∈ ordS L zs.length 16 0 ↔ s ∈ used zs := by
    intro s
    rw [mem_ordS]
    constructor
    · rintro ⟨_, h1, _⟩
      refine Classical.byContradiction fun h => ?_
      have := hL.none s h; omega
    · intro h
      have h1 := used_pos h
      exact ⟨⟨h1.1, h1.2.1⟩, hL.code.1 s h⟩
  have hc : checkErr (ordC L zs.length 16 0) (ordS L zs.length 16 0) = 0 := ord_check hn (Nat.le_trans (sumF_sub (ordS_nodup L _) (fun x hx => (hm x).1 hx) _) hL.code.2)
  have ht : ∀ s ∈ used zs, tabL (ordC L zs.length 16 0) (ordS L zs.length 16 0) s = L s := fun s hs => ord_tabL hc ((hm s).2 hs)
  have he : costE (ordC L zs.length 16 0) (ordS L zs.length 16 0) zs = 0 := (costE_zero (ordC_length _ _ _ _)).2 ⟨hc, hz, fun i hi => (hm i).2 hi⟩
  refine ⟨hm, hc, he, ?_, ht⟩
  have hl := ordC_length L zs.length 16 0
  clear hm hc
  generalize ordC L zs.length 16 0 = cs at *
  generalize ordS L zs.length 16 0 = syms at *
  rw [costV_eq hl he]
  have : costL zs (tabL cs syms) = costL zs L := by
    unfold costL
    exact sumF_congr fun i hi => by rw [ht i hi]
  rw [this]
end Go.Proofs.Ytddkhkpdbjjboaa

/- best.Make: its contract. -/
namespace Go.Proofs.Ytddkhkpdbjjboaa
open Go.RowKit
set_option linter.unusedVariables false
set_option linter.unusedSimpArgs false
set_option maxRecDepth 100000

theorem sing_eq (zs : List Int) : sing (backTo zs 0) = singlesOf (cntZ zs) (idxB zs) := by
  unfold sing backTo singlesOf idxB used
  rw [List.drop_zero, List.filter_reverse, List.map_cons, ← List.map_reverse, List.map_map]
  congr 1
  refine List.map_congr_left fun p hp => ?_
  obtain ⟨k, h1, h2⟩ := enumI_get (List.mem_filter.1 (List.mem_reverse.1 hp)).1
  simp only [Function.comp_apply, single1, h1, cntZ_at h2]
theorem results_cell_row_tmp {P : Program} {fn : Func} {p u : Tmp} {ty : TypeId} (h : fn.results = #[.cell p ty, .tmp u]) (tmps : Array Value) (w : World) (g : Nat) (t : TypeId) (cs : Array Value) (fr : Nat × Nat) (d : TypeDesc) (x : Value)
    (hp : tmps.getD p undef = .pointer (some ⟨g, 0, none⟩)) (hx : tmps.getD u undef = x) (hg : w.heap[g]? = some (.cells cs t fr))
    (hu : P.underlying ty = some d) (hd : (match d with | .struct _ | .array _ _ => true | _ => false) = true) (hi : (P.info? ty).map (·.size) = some cs.size) :
    (results fn tmps).run P w = .ok (.tuple #[.agg cs, x]) w := by
  rw [results_cell_tmp h, hp, hx]
  simp [asAddr, run_loadVar_row w g t ty cs fr d hg hu hd hi, Result.andThen]

theorem zeros_len : (tabCells (List.replicate 16 0) none 0 0).length = 17 := tabCells_length (by simp)
set_option maxRecDepth 100000 in
set_option maxHeartbeats 4000000 in
theorem make_err (A : Option Addr) (c G : Nat) (zs : List Int) (w : World) (hs : Seen w G A (ints .i64 zs)) (hG : G ≤ w.heap.size) (hl : zs.length ≤ maxLen) (hz : errB zs ≠ 0) :
    Calls Try.prog 31 #[.slice A zs.length c] w fun e w' => e = .returned (.tuple #[tabV (List.replicate 16 0) none 0 0, .int .i64 (errB zs)]) ∧ Below w.heap.size w w' := by
  have HC := veil (fun o => bcheck_any A c G zs (w.alloc o) (hs.alloc hG o) hl)
  have hne : (errB zs != 0) = true := by simpa using hz
  clear hz
  generalize errB zs = E at *
  go_enter Try.func31, Try.ntmps31
  go_wp2_with fail
  refine (HC.out _).mono ?_
  rintro e w' ⟨rfl, rfl⟩
  go_wp2_with fail
  refine bodyPost_ret (v := .tuple #[tabV (List.replicate 16 0) none 0 0, .int .i64 E]) (results_cell_row_tmp rfl _ _ w.heap.size 25 (tabCells (List.replicate 16 0) none 0 0).toArray (0, 0) _ _ rfl rfl (Blk.new w (tabCells (List.replicate 16 0) none 0 0) 25) Try.underlying25 rfl info_tab) rfl ⟨rfl, below1 _ _⟩

set_option maxRecDepth 100000 in
set_option maxHeartbeats 4000000 in
theorem make_ok (A : Option Addr) (c G : Nat) (zs : List Int) (w : World) (hs : Seen w G A (ints .i64 zs)) (hG : G ≤ w.heap.size) (hz : errB zs = 0) :
    Calls Try.prog 31 #[.slice A zs.length c] w fun e w' => ∃ L A' c', e = .returned (.tuple #[tabV (ordC L zs.length 16 0) A' (ordS L zs.length 16 0).length c', .int .i64 0]) ∧ BestL zs L ∧ Owns w.heap.size [intRow 3 .i64 (.slice A' (ordS L zs.length 16 0).length c') (ordS L zs.length 16 0)] w' ∧ Below w.heap.size w w' := by
  obtain ⟨h256, hzb⟩ := errB_ok hz
  have Hzb := veil hzb; clear hzb
  have hst := hs.alloc hG (.cells (tabCells (List.replicate 16 0) none 0 0).toArray 25)
  have HC := veil (bcheck_any A c G zs (tab0 w) hst (by unfold maxLen; omega))
  rw [hz] at HC
  clear hz
  have hb0 : Below w.heap.size w (tab0 w) := below1 _ _
  have hz0 := tab0_size w
  have HB0 := veil (Blk.new w (tabCells (List.replicate 16 0) none 0 0) 25)
  have HS := veil (singles_any A c G zs (tab0 w) hst (by rw [hz0]; omega) (by omega))
  have Hz0 := veil hz0
  clear hz0 hst
  go_enter Try.func31, Try.ntmps31
  go_wp2_with fail
  refine HC.out.mono ?_
  rintro e w' ⟨rfl, rfl⟩
  clear HC
  go_wp2_with fail
  refine HS.out.mono ?_
  rintro e w1 ⟨ys, rs, v, rfl, HO, hR, hb1⟩
  clear HS
  rw [sing_eq] at hR
  obtain ⟨A1, c1, e1, hs1, _, _⟩ := HO.seen List.mem_cons_self
  simp only [hRow] at e1 hs1
  subst e1
  have hyl : (idxB zs).length = ys.length := by have := hR.1; simp only [singlesOf, List.length_map] at this; exact this
  have HL := veil (lengths_any A1 c1 w1.heap.size (cntZ zs) (idxB zs) ys w1 hs1 (hR.buns HO.tail) (Nat.le_refl _) (by simp [idxB]) (by have := used_len zs; simp [idxB]; omega) (fun i _ => cntZ_max Hzb.out i) (fun i hi => by
    simp only [idxB, List.mem_cons, List.mem_reverse] at hi
    rcases hi with rfl | hi
    · exact wf_of (by omega)
    · have := used_pos hi; exact wf_of (by omega)))
  rw [hyl] at HL
  clear HO hR hs1
  have Hyl := veil hyl; clear hyl
  go_wp2_with fail
  refine HL.out.mono ?_
  rintro e w2 ⟨l, N, mb, rfl, hch, hmb, HM, hb2⟩
  rw [← Hyl.out] at HM
  have HO2 := veil (ordered_any mb zs.length N _ (lensB zs l) w2 HM (fun s hs => lensB_map hch s) h256)
  have HBest := veil (lensB_best h256 hch)
  clear HL HM hch
  generalize lensB zs l = L at *
  go_wp2_with fail
  refine HO2.out.mono ?_
  rintro e w3 ⟨A3, c3, rfl, HO3, hb3⟩
  clear HO2
  have hzz := Hz0.out
  have hz1 := hb1.size
  have hz2 := hb2.size
  have hB3 : Below (w.heap.size + 1) (tab0 w) w3 := by
    rw [← hzz]
    exact (hb1.trans (hb2.mono hz1)).trans (hb3.mono (by omega))
  have HB3 : Blk w3 w.heap.size (tabCells (List.replicate 16 0) none 0 0) 25 := HB0.out.below hB3 (Nat.lt_succ_self _)
  have hbw : Below w.heap.size w w3 := hb0.trans (hB3.mono (by omega))
  have HO4 := HO3.down (B' := w.heap.size + 1) (by omega)
  have hl17 := tabCells_length (A := A3) (n := (ordS L zs.length 16 0).length) (c := c3) (ordC_length L zs.length 16 0)
  have hone := tabCells_one (cs := ordC L zs.length 16 0) (A := A3) (n := (ordS L zs.length 16 0).length) (c := c3)
  have Hl := veil hl17
  have Hl0 := veil zeros_len
  obtain ⟨xs, hxs⟩ : ∃ xs, xs = tabCells (ordC L zs.length 16 0) A3 (ordS L zs.length 16 0).length c3 := ⟨_, rfl⟩
  obtain ⟨x0, hx0⟩ : ∃ xs, xs = tabCells (List.replicate 16 0) none 0 0 := ⟨_, rfl⟩
  unfold tabV
  rw [← hxs] at hl17 Hl hone ⊢
  rw [← hx0] at HB3 Hl0
  have HX := veil hxs
  clear hxs hx0 hl17 hb1 hb2 hb3 HO3 hB3 HB0 hz1 hz2 hzz
  go_wp2_with (first
    | (refine wpList_store_blk w3 rfl 25 (.tmp 2) (.tmp 16) rfl w.heap.size x0 xs 25 HB3 rfl rfl (by rw [Hl.out]; exact info_tab) (by rw [Hl.out, Hl0.out]) hone ?_; intro w5 HB5 hg5)
    | fail)
  refine bodyPost_ret (v := .tuple #[.agg xs.toArray, .int .i64 0]) (results_cell_row_tmp rfl _ _ w.heap.size 25 xs.toArray (0, 0) _ _ rfl rfl HB5 Try.underlying25 rfl (by simp only [List.size_toArray]; rw [Hl.out]; exact info_tab)) rfl ⟨L, A3, c3, by rw [HX.out], HBest.out, (HO4.kept hg5 (by omega)).down (by omega), hbw.grown hg5 hbw.size (fun j hj => by injection hj with hj; omega)⟩
end Go.Proofs.Ytddkhkpdbjjboaa

/- best.Make: one contract for all counts. -/
namespace Go.Proofs.Ytddkhkpdbjjboaa
open Go.RowKit
set_option linter.unusedVariables false
set_option linter.unusedSimpArgs false
set_option maxRecDepth 100000

/-- What Make hands back for these counts. -/
structure MadeT (zs cs syms : List Int) : Prop where
  len : cs.length = 16
  bnd : ∀ x ∈ cs, -9223372036854775808 ≤ x ∧ x ≤ 9223372036854775807
  short : syms.length ≤ 256
  ok : errB zs = 0 → (∀ s, s ∈ syms ↔ s ∈ used zs) ∧ syms.Nodup ∧ checkErr cs syms = 0 ∧ costE cs syms zs = 0 ∧ ∃ L, BestL zs L ∧ costV cs syms zs = (costL zs L : Int) ∧ ∀ s ∈ used zs, tabL cs syms s = L s
  bad : errB zs ≠ 0 → cs = List.replicate 16 0 ∧ syms = []
theorem make_any (A : Option Addr) (c G : Nat) (zs : List Int) (w : World) (hs : Seen w G A (ints .i64 zs)) (hG : G ≤ w.heap.size) (hl : zs.length ≤ maxLen) :
    Calls Try.prog 31 #[.slice A zs.length c] w fun e w' => ∃ cs syms A' c', e = .returned (.tuple #[tabV cs A' syms.length c', .int .i64 (errB zs)]) ∧ MadeT zs cs syms ∧ Owns w.heap.size [intRow 3 .i64 (.slice A' syms.length c') syms] w' ∧ Below w.heap.size w w' := by
  by_cases hz : errB zs = 0
  · refine (make_ok A c G zs w hs hG hz).mono ?_
    rintro e w' ⟨L, A', c', rfl, hL, HO, hb⟩
    obtain ⟨h1, h2, h3, h4, h5⟩ := made_of hz hL
    have hn := (errB_ok hz).1
    refine ⟨_, _, A', c', by rw [hz], ⟨ordC_length _ _ _ _, fun x hx => ?_, Nat.le_trans (ordS_short L _) hn, fun _ => ⟨h1, ordS_nodup L _, h2, h3, L, hL, h4, h5⟩, fun h => absurd hz h⟩, HO, hb⟩
    have := ordC_pos L zs.length x hx
    omega
  · refine (make_err A c G zs w hs hG hl hz).mono ?_
    rintro e w' ⟨rfl, hb⟩
    exact ⟨List.replicate 16 0, [], none, 0, rfl, ⟨by simp, fun x hx => by rw [List.eq_of_mem_replicate hx]; omega, by simp, fun h => absurd h hz, fun _ => ⟨rfl, rfl⟩⟩, (Owns.nil hb.size).fresh _ _, hb⟩
theorem MadeT.seen {zs cs syms : List Int} {A' : Option Addr} {c' B : Nat} {w : World} (HO : Owns B [intRow 3 .i64 (.slice A' syms.length c') syms] w) : Seen w w.heap.size A' (ints .i64 syms) := by
  obtain ⟨A1, c1, e, hs, _, _⟩ := HO.seen (List.mem_singleton.2 rfl)
  simp only [intRow, Value.slice.injEq] at e hs
  rw [e.1]; exact hs
end Go.Proofs.Ytddkhkpdbjjboaa

/- A table made of one symbol's counts. -/
namespace Go.Proofs.Ytddkhkpdbjjboaa
open Go.RowKit
set_option linter.unusedVariables false
set_option linter.unusedSimpArgs false
set_option maxRecDepth 100000

theorem lensFrom_ge : ∀ (ns : List Nat) (k x : Nat), x ∈ lensFrom k ns → k + 1 ≤ x
  | [], k, x, h => by simp [lensFrom] at h
  | n :: ns, k, x, h => by
    rw [lensFrom] at h
    rcases List.mem_append.1 h with h | h
    · have := (List.mem_replicate.1 h).2; omega
    · have := lensFrom_ge ns (k + 1) x h; omega
theorem one_words {zs cs syms : List Int} {s : Int} (h : MadeT zs cs syms) (he : errB zs = 0) (hu : used zs = [s]) (hc : cntZ zs s = 1) : syms = [s] ∧ checkErr cs syms = 0 ∧ outWords cs syms = [(s, 1, 0)] := by
  obtain ⟨h1, h2, h3, _, L, hL, _, h5⟩ := h.ok he
  have hs : syms = [s] := by
    rw [hu] at h1
    cases syms with
    | nil => have := (h1 s).2 (by simp); cases this
    | cons a l =>
      have ha := (h1 a).1 (by simp)
      have ha := List.mem_singleton.1 ha
      subst ha
      cases l with
      | nil => rfl
      | cons b l =>
        have hb := List.mem_singleton.1 ((h1 b).1 (by simp))
        subst hb
        simp at h2
  subst hs
  refine ⟨rfl, h3, ?_⟩
  have hk : CodeL zs fun _ => 1 := ⟨fun i _ => ⟨Nat.le_refl _, (by decide : 1 ≤ 16)⟩, by rw [hu]; simp [sumF]⟩
  have hl := hL.least _ hk
  have h1L := (hL.code.1 s (by rw [hu]; simp)).1
  have hL1 : L s = 1 := by
    unfold costL at hl
    rw [hu] at hl
    simp [sumF, hc] at hl
    omega
  have ht := tab_lens h3
  rw [List.map_singleton, h5 s (by rw [hu]; simp), hL1] at ht
  obtain ⟨l, hf, e, hll⟩ := fine_of h3
  rw [e]
  have hcode := hf.code
  unfold codes at hcode
  cases hn : nats cs with
  | nil => rw [hn] at ht; simp [lensFrom] at ht
  | cons n ns =>
    rw [hn] at ht hcode
    rw [lensFrom] at ht
    have hn1 : n = 1 := by
      cases n with
      | zero =>
        have : 1 ∈ lensFrom 1 ns := by
          have h9 : [1] = lensFrom 1 ns := by simpa using ht
          rw [← h9]; simp
        have := lensFrom_ge ns 1 1 this; omega
      | succ n =>
        have h9 := congrArg List.length ht
        simp at h9; omega
    subst hn1
    rw [codesFrom] at hcode
    split at hcode
    · obtain ⟨m, hm, rfl⟩ := Option.map_eq_some_iff.1 hcode
      have hml : m = [] := by
        have h9 : (([0] : List Nat).map (fun i => (0 + 1, 0 + i)) ++ m).length = 1 := by simpa using hll
        exact List.eq_nil_of_length_eq_zero (by simpa using h9)
      subst hml
      rfl
    · cases hcode
/-- The block of the closed fact. -/
def three : List Int := 3 :: List.replicate 63 0
def one2 : List Int := (List.replicate 256 0).set 2 1
def one0' : List Int := (List.replicate 256 0).set 0 1
theorem three_fc : fcL true [1] [three] 1 = one2 ∧ fcL false [1] [three] 1 = one0' := by decide +kernel
theorem three_used : used one2 = [2] ∧ used one0' = [0] ∧ cntZ one2 2 = 1 ∧ cntZ one0' 0 = 1 ∧ errB one2 = 0 ∧ errB one0' = 0 := by decide +kernel
theorem three_bits : segBits [(2, 1, 0)] [(0, 1, 0)] (toksB 0 [three]) = [false, true, true, false] := by decide +kernel
end Go.Proofs.Ytddkhkpdbjjboaa

/- The reference's parts, where all is one part. -/
namespace Go.Proofs.Ytddkhkpdbjjboaa
open Go.RowKit
set_option linter.unusedVariables false
set_option linter.unusedSimpArgs false
set_option maxRecDepth 100000

theorem parts0_any (n : Nat) (w : World) : Calls Try.prog 25 #[.int .i64 (n : Int), .int .i64 0] w fun e w' => ∃ v, e = .returned v ∧ Owns w.heap.size [intRow 3 .i64 v ([n].map Int.ofNat)] w' ∧ Below w.heap.size w w' := by
  have ho : Owns w.heap.size [intRow 3 .i64 (.slice (some ⟨w.heap.size, 0, none⟩) 1 1) ([n].map Int.ofNat)] (w.alloc (.cells #[.int .i64 (n : Int)] 3)) :=
    ⟨by simp, fun r hr => by
      rw [List.mem_singleton.1 hr]
      exact ⟨rfl, .inr ⟨w.heap.size, 1, _, rfl, Nat.le_refl _, heap_alloc_new w _, Nat.le_refl _, by unfold maxLen; decide, rfl, rfl⟩⟩, List.pairwise_singleton _ _⟩
  have Ho := veil ho
  clear ho
  go_enter Try.func25, Try.ntmps25
  go_wp2
  go_ret
  exact ⟨_, rfl, Ho.out, below1 w _⟩
end Go.Proofs.Ytddkhkpdbjjboaa

/- The table that may not be. -/
namespace Go.Proofs.Ytddkhkpdbjjboaa
open Go.RowKit
set_option linter.unusedVariables false
set_option linter.unusedSimpArgs false
set_option maxRecDepth 100000

def cs0 : List Int := [0, 0, 0, 0, 0, 0, 0, 0, 0, 0, 0, 0, 0, 0, 0, 0]
end Go.Proofs.Ytddkhkpdbjjboaa
