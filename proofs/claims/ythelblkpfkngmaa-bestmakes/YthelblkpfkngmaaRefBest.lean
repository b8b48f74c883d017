/- The reference's BestCost: what the best lengths take. -/
import Derived.Test.YthelblkpfkngmaaBestDp
import Derived.Test.YthelblkpfkngmaaFallMath
import Derived.Test.YthelblkpfkngmaaConcat
import Derived.Test.YthelblkpfkngmaaBlk
import Derived.Test.YthelblkpfkngmaaTabMap
import Derived.StillTailTactics
import Derived.BigRegion
namespace Go.Proofs.Ythelblkpfkngmaa
open Go.RowKit
set_option linter.unusedVariables false
set_option linter.unusedSimpArgs false

def posL (l : List Int) : List Int := l.filter fun x => decide (0 < x)
theorem posL_yes {l : List Int} {x : Int} (h : 0 < x) : posL (l ++ [x]) = posL l ++ [x] := by simp [posL, h]
theorem posL_no {l : List Int} {x : Int} (h : ¬ 0 < x) : posL (l ++ [x]) = posL l := by simp [posL, h]
theorem posL_len (l : List Int) : (posL l).length ≤ l.length := List.length_filter_le _ _

theorem pos_used {zs : List Int} : (used zs).map (cntZ zs) = (posL zs).map Int.toNat := by
  have h1 : posL zs = ((enumI zs).filter fun p => decide (0 < p.2)).map (·.2) := by
    have e : (enumI zs).map (·.2) = zs := by
      apply List.ext_getElem?
      intro i
      by_cases hi : i < zs.length
      · obtain ⟨x, hx⟩ := some_at hi
        rw [List.getElem?_map, enumI_at hx, hx]; rfl
      · rw [List.getElem?_eq_none (by simp [enumI_length]; omega), List.getElem?_eq_none (by omega)]
    unfold posL
    conv => lhs; rw [← e]
    rw [List.filter_map]; rfl
  rw [h1]
  unfold used
  rw [List.map_map, List.map_map]
  refine List.map_congr_left fun p hp => ?_
  obtain ⟨k, h3, h4⟩ := enumI_get (List.mem_filter.1 hp).1
  simp only [Function.comp_apply]
  rw [h3, cntZ_at h4]
theorem sorted_of {zs l : List Int} (hp : l.Perm (posL zs)) (hf : Falls l l.length) : ∃ srt : List Nat, srt.Perm ((used zs).map (cntZ zs)) ∧ srt.Pairwise (fun x y => y ≤ x) ∧ l = srt.map Int.ofNat := by
  have hpos : ∀ x ∈ l, 0 < x := fun x hx => by simpa [posL] using (List.mem_filter.1 (hp.mem_iff.1 hx)).2
  refine ⟨l.map Int.toNat, by rw [pos_used]; exact hp.map _, ?_, ?_⟩
  · rw [List.pairwise_map]
    exact hf.pairwise.imp fun h => by omega
  · rw [List.map_map]
    conv => lhs; rw [← List.map_id l]
    refine List.map_congr_left fun x hx => ?_
    have := hpos x hx
    simp; omega
/-- The sums of what is still to come, from place q on. -/
def restL (vs : List Nat) (q : Nat) : List Int := (List.range (vs.length + 1)).map fun j => if q ≤ j then ((vs.drop j).sum : Int) else 0
theorem restL_length (vs : List Nat) (q : Nat) : (restL vs q).length = vs.length + 1 := by simp [restL]
theorem restL_start (vs : List Nat) : restL vs vs.length = List.replicate (vs.length + 1) 0 := by
  unfold restL
  rw [List.eq_replicate_iff]
  refine ⟨by simp, fun b hb => ?_⟩
  obtain ⟨j, hj, rfl⟩ := List.mem_map.1 hb
  split
  · rw [List.drop_of_length_le (by omega)]; rfl
  · rfl
theorem restL_at {vs : List Nat} {q j : Nat} (hj : j ≤ vs.length) (hq : q ≤ j) : (restL vs q)[j]? = some ((vs.drop j).sum : Int) := by
  unfold restL
  rw [List.getElem?_map, List.getElem?_range (by omega)]; simp [hq]
theorem restL_some {vs : List Nat} {q j : Nat} (hj : j ≤ vs.length) : ∃ x, (restL vs q)[j]? = some x := some_at (by rw [restL_length]; omega)
theorem restL_set {vs : List Nat} {j : Nat} (hj : j < vs.length) : (restL vs (j + 1)).set j ((vs.drop j).sum : Int) = restL vs j := by
  apply List.ext_getElem?
  intro i
  by_cases hi : i ≤ vs.length
  · by_cases e : j = i
    · subst e
      rw [List.getElem?_set_self (by rw [restL_length]; omega), restL_at hi (Nat.le_refl _)]
    · rw [List.getElem?_set_ne e]
      unfold restL
      rw [List.getElem?_map, List.getElem?_map, List.getElem?_range (by omega)]
      simp only [Option.map_some]
      by_cases h : j + 1 ≤ i
      · rw [if_pos h, if_pos (by omega)]
      · rw [if_neg h, if_neg (by omega)]
  · rw [List.getElem?_eq_none (by rw [List.length_set, restL_length]; omega), List.getElem?_eq_none (by rw [restL_length]; omega)]
theorem drop_sum {vs : List Nat} {j v : Nat} (h : vs[j]? = some v) : (vs.drop j).sum = v + (vs.drop (j + 1)).sum := by
  obtain ⟨hj, e⟩ := List.getElem?_eq_some_iff.1 h
  rw [List.drop_eq_getElem_cons hj, e, List.sum_cons]
theorem sum_small {l : List Nat} {m : Nat} (h : ∀ x ∈ l, x ≤ m) : l.sum ≤ m * l.length := by
  induction l with
  | nil => simp
  | cons a l ih => have := h a (by simp); have := ih fun x hx => h x (by simp [hx]); simp only [List.sum_cons, List.length_cons, Nat.mul_add]; omega
theorem run_make_nums (n : Nat) (h : n ≤ 1099511627776) (u : World) : (Instr.makeSlice 23 (.int .i64 (n : Int)) (.int .i64 (n : Int))).run Try.prog u =
    .ok (.slice (some ⟨u.heap.size, 0, none⟩) n n) (u.alloc (.cells (ints .i64 (List.replicate n 0)).toArray 3)) := by
  obtain ⟨i0, hi, hz0, hz1, hz2⟩ := info_parts (show (Try.prog.info? 3).map (fun i => (i.zero, i.size, i.bytes)) = some (some (.int .i64 0), 1, 8) by kernel_rfl)
  have h := run_make (P := Try.prog) u 23 3 i0 (.int .i64 0) Try.underlying23 hi hz0 .i64 .i64 n n (by omega) (by omega) (by rw [hz2]; omega) (by omega)
  have e : madeCells #[Value.int .i64 0] n = (ints .i64 (List.replicate n 0)).toArray := by
    apply Array.ext'
    rw [toList_madeCells_one]
    simp [ints]
  rw [← e]
  simpa [hz1, Value.cells] using h
/-- What is least so far, c ways tried. -/
def bestV (q : Nat) (vs : List Nat) (m c : Nat) : Nat := if vs.length + 1 ≤ c then 0 else match q with
  | 0 => far
  | r + 1 => (List.range c).foldl (dpStep (dpT r) vs m) far
theorem bestV_zero (q : Nat) (vs : List Nat) (m : Nat) : bestV q vs m 0 = far := by
  unfold bestV
  rw [if_neg (by omega)]
  cases q <;> rfl
theorem bestV_hit {q : Nat} {vs : List Nat} {m c : Nat} (h : c = vs.length) : bestV q vs m (c + 1) = 0 := by
  unfold bestV; rw [if_pos (by omega)]
theorem bestV_none {vs : List Nat} {m c : Nat} (h : c < vs.length) : bestV 0 vs m (c + 1) = bestV 0 vs m c := by
  unfold bestV; rw [if_neg (by omega), if_neg (by omega)]
theorem bestV_step {r : Nat} {vs : List Nat} {m c : Nat} (h : c < vs.length) : bestV (r + 1) vs m (c + 1) = min (bestV (r + 1) vs m c) ((vs.drop c).sum + dpT r (vs.drop c) (min (2 * (m - c)) (vs.length - c))) := by
  unfold bestV; rw [if_neg (by omega), if_neg (by omega)]
  simp only [List.range_succ, List.foldl_append, List.foldl_cons, List.foldl_nil]
  rfl
theorem bestV_end {q : Nat} {vs : List Nat} {m : Nat} : bestV q vs m (min m vs.length + 1) = dpT q vs m := by
  by_cases h : vs.length ≤ m
  · rw [Nat.min_eq_right h, bestV_hit rfl]
    cases q <;> simp [dpT, h]
  · rw [Nat.min_eq_left (by omega)]
    unfold bestV
    rw [if_neg (by omega)]
    cases q <;> simp only [dpT, if_neg h]
theorem bestV_far (q : Nat) (vs : List Nat) (m c : Nat) : bestV q vs m c ≤ far := by
  unfold bestV
  split
  · exact Nat.zero_le _
  · cases q
    · exact Nat.le_refl _
    · exact foldl_le _ _ _ _ _
theorem dpT_nil (q m : Nat) {vs : List Nat} (h : vs.length = 0) : dpT q vs m = 0 := by cases q <;> simp [dpT, h]
/-- A row filled as far as m. -/
def rowL (T : Nat → Nat) (n m : Nat) : List Int := (List.range n).map fun j => if j < m then (T j : Int) else 0
theorem rowL_start (T : Nat → Nat) (n : Nat) : rowL T n 0 = List.replicate n 0 := by
  unfold rowL
  rw [List.eq_replicate_iff]
  refine ⟨by simp, fun b hb => ?_⟩
  obtain ⟨j, _, rfl⟩ := List.mem_map.1 hb
  simp
theorem rowL_some {T : Nat → Nat} {n m j : Nat} (h : j < n) : ∃ x, (rowL T n m)[j]? = some x := some_at (by simpa [rowL] using h)
theorem rowL_at {T : Nat → Nat} {n m j : Nat} (h : j < n) (hj : j < m) : (rowL T n m)[j]? = some (T j : Int) := by
  unfold rowL
  rw [List.getElem?_map, List.getElem?_range h]; simp [hj]
theorem rowL_set {T : Nat → Nat} {n m : Nat} (h : m < n) : (rowL T n m).set m (T m : Int) = rowL T n (m + 1) := by
  apply List.ext_getElem?
  intro j
  by_cases hj : j < n
  · by_cases e : m = j
    · subst e
      rw [List.getElem?_set_self (by simpa [rowL] using h), rowL_at h (Nat.lt_succ_self _)]
    · rw [List.getElem?_set_ne e]
      unfold rowL
      rw [List.getElem?_map, List.getElem?_map, List.getElem?_range hj]
      simp only [Option.map_some]
      by_cases h1 : j < m
      · rw [if_pos h1, if_pos (by omega)]
      · rw [if_neg h1, if_neg (by omega)]
  · rw [List.getElem?_eq_none (by simp [rowL]; omega), List.getElem?_eq_none (by simp [rowL]; omega)]
def rows0 (n : Nat) : List Value := List.replicate n (.slice none 0 0)
/-- The rows made so far. -/
def curL (g n r : Nat) : List Value := (List.range n).map fun j => if j < r then .slice (some ⟨g + 1 + j, 0, none⟩) n n else .slice none 0 0
theorem curL_start (g n : Nat) : curL g n 0 = rows0 n := by
  unfold curL rows0
  rw [List.eq_replicate_iff]
  refine ⟨by simp, fun b hb => ?_⟩
  obtain ⟨j, _, rfl⟩ := List.mem_map.1 hb
  simp
theorem curL_at {g n r j : Nat} (h : j < n) (hj : j < r) : (curL g n r)[j]? = some (.slice (some ⟨g + 1 + j, 0, none⟩) n n) := by
  unfold curL
  rw [List.getElem?_map, List.getElem?_range h]; simp [hj]
theorem curL_next {g n r : Nat} (h : r < n) : (curL g n r)[r]? = some (.slice none 0 0) := by
  unfold curL
  rw [List.getElem?_map, List.getElem?_range h]; simp
theorem curL_set {g n r : Nat} (h : r < n) : (curL g n r).set r (.slice (some ⟨g + 1 + r, 0, none⟩) n n) = curL g n (r + 1) := by
  apply List.ext_getElem?
  intro j
  by_cases hj : j < n
  · by_cases e : r = j
    · subst e
      rw [List.getElem?_set_self (by simpa [curL] using h), curL_at h (Nat.lt_succ_self _)]
    · rw [List.getElem?_set_ne e]
      unfold curL
      rw [List.getElem?_map, List.getElem?_map, List.getElem?_range hj]
      simp only [Option.map_some]
      by_cases h1 : j < r
      · rw [if_pos h1, if_pos (by omega)]
      · rw [if_neg h1, if_neg (by omega)]
  · rw [List.getElem?_eq_none (by simp [curL]; omega), List.getElem?_eq_none (by simp [curL]; omega)]
/-- A table of rows made one after the other. -/
def Tab (w : World) (g n : Nat) (f : Nat → Nat → Nat) : Prop := (∀ r, r < n → w.cell? ⟨g, r, none⟩ = some (.slice (some ⟨g + 1 + r, 0, none⟩) n n)) ∧ (∀ r m, r < n → m < n → w.cell? ⟨g + 1 + r, m, none⟩ = some (.int .i64 (f r m : Int))) ∧ g + 1 + n ≤ w.heap.size
theorem Tab.below {w w' : World} {g n C : Nat} {f : Nat → Nat → Nat} (h : Tab w g n f) (hb : Below C w w') (hC : w.heap.size ≤ C) : Tab w' g n f := by
  obtain ⟨h1, h2, h3⟩ := h
  refine ⟨fun r hr => ?_, fun r m hr hm => ?_, Nat.le_trans h3 hb.size⟩
  · rw [hb.cell (by simp; omega)]; exact h1 r hr
  · rw [hb.cell (by simp; omega)]; exact h2 r m hr hm
/-- Nothing but draws between. -/
def Qt (w w' : World) : Prop := (∀ B, Below B w w') ∧ w'.heap = w.heap
theorem Qt.refl (w : World) : Qt w w := ⟨fun _ => .refl _ _, rfl⟩
theorem Qt.drewN {w w' : World} (h : Qt w w') (n : Nat) : Qt w (w'.drewN n) := ⟨fun B => (h.1 B).drewN n, h.2⟩
theorem Qt.drew {w w' : World} (h : Qt w w') : Qt w w'.drew := ⟨fun B => (h.1 B).drew, h.2⟩
theorem Qt.blk {w w' : World} {b : Nat} {xs : List Value} {t : TypeId} (h : Qt w w') (hb : Blk w b xs t) : Blk w' b xs t := by
  unfold Blk at hb ⊢; rw [h.2]; exact hb
theorem Qt.cell {w w' : World} (h : Qt w w') (p : Addr) : w'.cell? p = w.cell? p := (h.1 (p.block + 1)).cell (Nat.lt_succ_self _)
theorem run_make_rows (n : Nat) (h : n ≤ 1099511627776) (u : World) : (Instr.makeSlice 76 (.int .i64 (n : Int)) (.int .i64 (n : Int))).run Try.prog u =
    .ok (.slice (some ⟨u.heap.size, 0, none⟩) n n) (u.alloc (.cells (rows0 n).toArray 23)) := by
  obtain ⟨i0, hi, hz0, hz1, hz2⟩ := info_parts (show (Try.prog.info? 23).map (fun i => (i.zero, i.size, i.bytes)) = some (some (.slice none 0 0), 1, 24) by kernel_rfl)
  have h := run_make (P := Try.prog) u 76 23 i0 (.slice none 0 0) Try.underlying76 hi hz0 .i64 .i64 n n (by omega) (by omega) (by rw [hz2]; omega) (by omega)
  have e : madeCells #[Value.slice none 0 0] n = (rows0 n).toArray := by
    apply Array.ext'
    rw [toList_madeCells_one]; rfl
  rw [← e]
  simpa [hz1, Value.cells] using h
/-- A row of numbers, its length said apart. -/
def rawRow (v : Value) (n : Nat) (l : List Int) : Row := ⟨3, 1, v, n, ints .i64 l⟩
theorem Owns.setRaw {B g c n : Nat} {l : List Int} {rs : List Row} {w : World} (h : Owns B (rawRow (.slice (some ⟨g, 0, none⟩) n c) n l :: rs) w) (i : Nat) (y : Int) : Owns B (rawRow (.slice (some ⟨g, 0, none⟩) n c) n (l.set i y) :: rs) (w.setCell ⟨g, i, none⟩ (.int .i64 y)) := by
  have h0 : w.ownsRow B 3 1 (.slice (some ⟨g, 0, none⟩) n c) n (ints .i64 l) := h.head
  obtain ⟨h1, h2⟩ := h0.stored i (.int .i64 y)
  have hap := List.pairwise_cons.1 h.apart
  refine ⟨Nat.le_trans h.base h2.size, fun r hm => ?_, List.pairwise_cons.2 ⟨fun s hs => hap.1 s hs, hap.2⟩⟩
  rcases List.mem_cons.1 hm with rfl | hm
  · have e1 : ints .i64 (l.set i y) = (ints .i64 l).set i (.int .i64 y) := by simp [ints, List.map_set]
    unfold rawRow
    rw [e1]; exact h1
  · refine (h.each r (List.mem_cons_of_mem _ hm)).kept h2 ?_
    cases hv : r.v.ownBlock with
    | none => exact .inl rfl
    | some q => exact .inr fun e => hap.1 r hm g rfl (by rw [hv, e])
theorem raw_cell {B g c n : Nat} {l : List Int} {rs : List Row} {w : World} (h : Owns B (rawRow (.slice (some ⟨g, 0, none⟩) n c) n l :: rs) w) {i : Nat} {x : Int} (hx : l[i]? = some x) (hi : i < n) : w.cell? ⟨g, i, none⟩ = some (.int .i64 x) ∧ w.frozen? ⟨g, i, none⟩ = false ∧ B ≤ g ∧ g < w.heap.size := by
  have h0 : w.ownsRow B 3 1 (.slice (some ⟨g, 0, none⟩) n c) n (ints .i64 l) := h.head
  exact ⟨by rw [h0.cellAt i (by omega)]; exact ints_at hx, h0.frozenAt i, h0.lt g rfl⟩
theorem raw_some {B c n : Nat} {A : Option Addr} {l : List Int} {rs : List Row} {w : World} (h : Owns B (rawRow (.slice A n c) n l :: rs) w) (hn : 0 < n) : ∃ g, A = some ⟨g, 0, none⟩ := by
  have h0 : w.ownsRow B 3 1 (.slice A n c) n (ints .i64 l) := h.head
  rcases h0.2 with ⟨_, h1⟩ | ⟨g, cap, cur, h1, _⟩
  · omega
  · simp only [Value.slice.injEq] at h1
    exact ⟨g, h1.1⟩

set_option maxRecDepth 1000000 in
set_option maxHeartbeats 4000000 in
theorem bestCost_any (A : Option Addr) (c G : Nat) (zs : List Int) (w : World) (L : Int → Nat) (hs : Seen w G A (ints .i64 zs)) (hG : G ≤ w.heap.size) (hz : errB zs = 0) (hL : BestL zs L) :
    Calls Try.prog 33 #[.slice A zs.length c] w fun e w' => e = .returned (.int .i64 (costL zs L : Int)) ∧ Below w.heap.size w w' := by
  obtain ⟨h256, hzb⟩ := errB_ok hz
  obtain ⟨V, hV⟩ : ∃ V, V = costL zs L := ⟨_, rfl⟩
  rw [← hV]
  have HV := veil hV; have HL := veil hL; have Hzb := veil hzb
  clear hV hL hzb hz
  go_enter Try.func33, Try.ntmps33
  go_wp2
  go_loopg [3, 20] zs.length (fun gk v i wr => ∃ k : Nat, gk = zs.length - k ∧ k ≤ zs.length ∧ i = .int .i64 (k : Int) ∧ Owns w.heap.size [intRow 3 .i64 v (posL (zs.take k))] wr ∧ Below w.heap.size w wr)
  case atStart => exact ⟨0, rfl, Nat.zero_le _, rfl, (Owns.start w).fresh _ _, Below.refl _ _⟩
  case round =>
    obtain ⟨k, rfl, hk, rfl, HO, hbel⟩ := hrel
    have hpl : (posL (zs.take k)).length ≤ 256 := by
      have := posL_len (zs.take k); rw [List.length_take] at this; omega
    by_cases hlt : k < zs.length
    · have hltz : (k : Int) < (zs.length : Int) := by omega
      obtain ⟨g, o, x, rfl, hg, hx, hcx⟩ := (hs.below hbel hG).int hlt
      have HQ := veil (take_snoc hx)
      clear hx
      by_cases hx0 : 0 < x
      · have HQ2 : Hid (posL (zs.take (k + 1)) = posL (zs.take k) ++ [x]) := by show _ = _; rw [HQ.out, posL_yes hx0]
        clear HQ
        generalize posL (zs.take k) = l at *
        go_wp2_with (first
          | (at_builtin; go_loud (refine wpList_ownI wr rfl (.tmp 26) (.tmp 28) _ rfl w.heap.size 3 .i64 8 elemN u3 l [] rfl HO [x] rfl (by unfold maxLen; simp; omega) (by simp; omega) ?_); intro v' w' HO' hb' hz')
          | fail)
        go_roundg (zs.length - (k + 1))
        case rel => exact ⟨k + 1, rfl, by omega, by go_num, by rw [HQ2.out]; exact HO', hbel.trans hb'⟩
        case measure => omega
      · have HQ2 : Hid (posL (zs.take (k + 1)) = posL (zs.take k)) := by show _ = _; rw [HQ.out, posL_no hx0]
        clear HQ
        generalize posL (zs.take k) = l at *
        go_wp2_with fail
        go_roundg (zs.length - (k + 1))
        case rel => exact ⟨k + 1, rfl, by omega, by go_num, by rw [HQ2.out]; exact HO, hbel⟩
        case measure => omega
    · have hltz : ¬ (k : Int) < (zs.length : Int) := by omega
      have htk : zs.take k = zs := List.take_of_length_le (by omega)
      rw [htk] at HO hpl
      obtain ⟨P, hP⟩ : ∃ P, P = posL zs := ⟨_, rfl⟩
      rw [← hP] at HO hpl
      have HP := veil hP
      obtain ⟨A3, c3, e3, _, _, _⟩ := HO.seen (List.mem_singleton.2 rfl)
      simp only [intRow] at e3
      subst e3
      clear htk hP
      have HO1 : Owns w.heap.size [rawRow (.slice A3 P.length c3) P.length P] wr := HO
      clear HO
      go_wp2_with fail
      clear hltz hlt hk
      rename World => W0
      obtain ⟨N, hN⟩ : ∃ N, N = P.length := ⟨_, rfl⟩
      rw [← hN] at HO1 hpl ⊢
      have HN := veil hN
      clear hN
      go_loopg [33] N (fun gk s wr => ∃ (i : Nat) (l : List Int), gk = N - i ∧ i ≤ N ∧ s = .int .i64 (i : Int) ∧ Owns w.heap.size [rawRow (.slice A3 N c3) N l] wr ∧ Hid (l.Perm P ∧ Falls l i) ∧ Below w.heap.size w wr)
      case atStart => exact ⟨0, P, rfl, Nat.zero_le _, rfl, HO1, ⟨.refl _, fun a b x y h1 h2 => by omega⟩, hbel⟩
      case round =>
        clear HO1 hbel
        obtain ⟨i, l, rfl, hi, rfl, HO, HF, hbel⟩ := hrel
        by_cases hlt : i < N
        · have hltz : (i : Int) < (N : Int) := by omega
          obtain ⟨g, rfl⟩ := raw_some HO (by omega)
          have hF := HF.out
          go_wp2_with fail
          rename World => W1
          go_loopg [7] i (fun gk s wr => ∃ (k : Nat) (l : List Int), gk = k ∧ k ≤ i ∧ s = .int .i64 (k : Int) ∧ Owns w.heap.size [rawRow (.slice (some ⟨g, 0, none⟩) N c3) N l] wr ∧ Hid (l.Perm P ∧ FallIns l k i) ∧ Below w.heap.size w wr)
          case atStart => exact ⟨i, l, rfl, Nat.le_refl _, rfl, HO, ⟨hF.1, FallIns.start hF.2⟩, hbel⟩
          case round =>
            clear HO hbel hF HF
            obtain ⟨k, l, hgk, hk, rfl, HO, HF, hbel⟩ := hrel
            rcases Nat.eq_zero_or_pos k with h0 | h0
            · have hd : decide (0 < k) = false := by simp; omega
              have HF2 : Hid (l.Perm P ∧ Falls l (i + 1)) := by
                have h1 := HF.out
                rw [h0] at h1
                exact ⟨h1.1, h1.2.zero⟩
              clear HF h0 hgk
              go_wp2_with fail
              go_quiet (fail)
              go_wp2_with fail
              go_roundg (N - (i + 1))
              case rel => exact ⟨i + 1, l, rfl, by omega, by go_num, HO.drewN _, HF2, hbel.drewN _⟩
              case measure => omega
            · obtain ⟨j, rfl⟩ : ∃ j, k = j + 1 := ⟨k - 1, by omega⟩
              have hll : l.length = N := by rw [HF.out.1.length_eq, HN.out]
              obtain ⟨x, hx⟩ := some_at (xs := l) (j := j + 1) (by omega)
              obtain ⟨y, hy⟩ := some_at (xs := l) (j := j) (by omega)
              obtain ⟨cx, fx, hgB, hgw⟩ := raw_cell HO hx (by omega)
              obtain ⟨cy, fy, _, _⟩ := raw_cell HO hy (by omega)
              have Hx := veil hx; have Hy := veil hy
              clear hx hy hll
              have e1 : ((j + 1 : Nat) : Int) = (j : Int) + 1 := by omega
              rw [e1]
              have p0 : (0 : Int) < (j : Int) + 1 := by omega
              have p1 : (0 : Int) ≤ (j : Int) + 1 := by omega
              have p2 : (j : Int) + 1 < (N : Int) := by omega
              have p3 : (0 : Int) ≤ (j : Int) := by omega
              have p4 : (j : Int) < (N : Int) := by omega
              have hd : decide ((0 : Int) < (j : Int) + 1) = true := decide_eq_true p0
              have r1 : IntKind.i64.wrap ((j : Int) + 1 - 1) = (j : Int) := by rw [IntKind.wrap_i64]; omega
              have r2 : IntKind.i64.wrap (j : Int) = (j : Int) := by rw [IntKind.wrap_i64]; omega
              have t1 : ((j : Int) + 1).toNat = j + 1 := by omega
              have t2 : ((j : Int)).toNat = j := by omega
              clear e1
              by_cases hxy : y < x
              · have hd2 : decide (y < x) = true := by simpa using hxy
                have HF2 : Hid (((l.set (j + 1) y).set j x).Perm P ∧ FallIns ((l.set (j + 1) y).set j x) j i) := ⟨(swap_perm Hy.out Hx.out).trans HF.out.1, HF.out.2.swap hk Hy.out Hx.out hxy⟩
                clear HF
                go_wp2_with fail
                go_quiet (fail)
                go_wp2_with fail
                go_big_region
                go_wp2_with fail
                go_roundg j
                case rel => exact ⟨j, _, rfl, by omega, by go_num, ((HO.drewN _).setRaw (j + 1) y).setRaw j x, HF2, ((hbel.drewN _).setCell (p := ⟨g, j + 1, none⟩) (by simpa using hgB) (.int .i64 y)).setCell (p := ⟨g, j, none⟩) (by simpa using hgB) (.int .i64 x)⟩
                case measure => omega
              · have hd2 : decide (y < x) = false := by simpa using hxy
                have HF2 : Hid (l.Perm P ∧ Falls l (i + 1)) := ⟨HF.out.1, HF.out.2.stop hk Hy.out Hx.out (by omega)⟩
                clear HF
                go_wp2_with fail
                go_quiet (fail)
                go_wp2_with fail
                go_roundg (N - (i + 1))
                case rel => exact ⟨i + 1, l, rfl, by omega, by go_num, HO.drewN _, HF2, hbel.drewN _⟩
                case measure => omega
        · have hltz : ¬ (i : Int) < (N : Int) := by omega
          obtain rfl : i = N := by omega
          have HS : Hid (∃ srt : List Nat, srt.Perm ((used zs).map (cntZ zs)) ∧ srt.Pairwise (fun x y => y ≤ x) ∧ l = srt.map Int.ofNat) := by
            have h1 := HF.out
            have h2 : l.length = i := by rw [h1.1.length_eq, HN.out]
            exact sorted_of (by rw [← HP.out]; exact h1.1) (by rw [h2]; exact h1.2)
          have hll : Hid (l.length = i) := by show _ = _; rw [HF.out.1.length_eq, HN.out]
          clear HF
          obtain ⟨srt, hsp, hsd, hsl⟩ := HS.out
          obtain ⟨vs, hvs⟩ : ∃ vs, vs = srt ++ [0] := ⟨_, rfl⟩
          have hvl : vs.length = i + 1 := by rw [hvs, List.length_append, ← hll.out, hsl]; simp
          have hvi : ints .i64 l ++ [.int .i64 0] = ints .i64 (vs.map Int.ofNat) := by rw [hvs, hsl]; simp [ints]
          have HAns : Hid (vs.sum + dpT 15 vs 2 = V) := by
            show _ = _
            rw [hvs, HV.out]
            exact dp_best HL.out h256 (fun i => cntZ_max Hzb.out i) hsp hsd
          have Hv0 : Hid (i = 0 → V = 0) := by
            intro h0
            rw [HV.out]
            have h1 : (used zs).length = 0 := by
              have := hsp.length_eq; rw [List.length_map] at this
              have h2 := hll.out; rw [hsl, List.length_map] at h2; omega
            unfold costL
            rw [List.length_eq_zero_iff.1 h1]; rfl
          have hvm : Hid (∀ x ∈ vs, x ≤ 9999) := by
            intro x hx
            rw [hvs] at hx
            rcases List.mem_append.1 hx with hx | hx
            · obtain ⟨j, _, rfl⟩ := List.mem_map.1 (hsp.mem_iff.1 hx)
              exact cntZ_max Hzb.out j
            · simp at hx; omega
          have Hvi := veil hvi; have Hvl := veil hvl
          clear HS hsp hsd hsl hvs hvl hvi
          have hmk := fun u => run_make_nums (i + 2) (by omega) u
          rw [show ((i + 2 : Nat) : Int) = (i : Int) + 1 + 1 by omega] at hmk
          go_wp2_with (first
            | (at_builtin; go_loud (refine wpList_ownV (wr.alloc (.cells #[.int .i64 0] 3)) rfl (.tmp 70) (.tmp 71) _ rfl w.heap.size 3 1 8 elemN (.slice A3 i c3) i (ints .i64 l) [] rfl (HO.alloc _) (wr.heap.size + 1) (some ⟨wr.heap.size, 0, none⟩) 1 1 [.int .i64 0] rfl (Seen.new wr _ _ _ (Nat.lt_succ_self _)) rfl (by simp [Value.oneCell']) (by unfold maxLen; omega) (by omega) ?_); intro v2 w2 HO2 hb2; obtain ⟨A4, c4, e4, _, _, _⟩ := HO2.seen (List.mem_singleton.2 rfl); (simp only at e4); subst e4)
            | fail)
          clear hmk
          have hsw : Seen w2 w2.heap.size A4 (ints .i64 (vs.map Int.ofNat)) := by rw [← Hvi.out]; assumption
          have hbelw2 : Below w.heap.size w w2 := (hbel.alloc hbel.size _).trans hb2
          have HSum : Hid (∀ j, (vs.drop j).sum ≤ 9999 * 257) := fun j => by
            have h1 := sum_small (l := vs.drop j) (m := 9999) fun x hx => hvm.out x (List.mem_of_mem_drop hx)
            have h2 : (vs.drop j).length ≤ 257 := by rw [List.length_drop, Hvl.out]; omega
            have h3 := Nat.mul_le_mul_left 9999 h2
            omega
          have hR0 : Blk (w2.alloc (.cells (ints .i64 (List.replicate (i + 2) 0)).toArray 3)) w2.heap.size (ints .i64 (restL vs (i + 1))) 3 := by
            have e := restL_start vs
            rw [Hvl.out] at e
            rw [e]
            exact Blk.new w2 _ _
          have HR0 := veil hR0
          clear hR0 HO2 hb2 hbel HO
          go_loopg [9] (i + 1) (fun gk s wr => ((∃ j : Nat, gk = j + 1 ∧ j < i + 1 ∧ s = .int .i64 (j : Int) ∧ Blk wr w2.heap.size (ints .i64 (restL vs (j + 1))) 3) ∨ (s = .int .i64 (-1) ∧ Blk wr w2.heap.size (ints .i64 (restL vs 0)) 3)) ∧ Below w2.heap.size w2 wr)
          case atStart => exact ⟨.inl ⟨i, rfl, by omega, rfl, HR0.out⟩, below1 _ _⟩
          case round =>
            clear HR0
            obtain ⟨⟨j, hgk, hj, rfl, HB⟩ | ⟨rfl, HB⟩, hbel⟩ := hrel
            · obtain ⟨v, hv⟩ := some_at (xs := vs) (j := j) (by rw [Hvl.out]; exact hj)
              obtain ⟨g4, o4, hA4, hg4, hcw⟩ := hsw.cell (k := j) (u := .int .i64 (v : Int)) (ints_at (by rw [List.getElem?_map, hv]; rfl))
              subst hA4
              rw [← hbel.cell (by simp; omega)] at hcw
              have d1 := HB.cell (ints_at (k := .i64) (restL_at (vs := vs) (q := j + 1) (j := j + 1) (by rw [Hvl.out]; omega) (Nat.le_refl _)))
              obtain ⟨u0, hu0⟩ := restL_some (vs := vs) (q := j + 1) (j := j) (by rw [Hvl.out]; omega)
              have d0 := HB.cell (ints_at (k := .i64) hu0)
              have f0 := HB.frozen j
              have hsm := HSum.out (j + 1)
              have hvx := hvm.out v (List.mem_of_getElem? hv)
              have Hds := veil (drop_sum hv)
              have HB2 : Hid (Blk ((wr.drew).setCell ⟨w2.heap.size, j, none⟩ (.int .i64 (((vs.drop (j + 1)).sum : Int) + (v : Int)))) w2.heap.size (ints .i64 (restL vs j)) 3) := by
                have h5 := (show Blk wr.drew w2.heap.size _ _ from HB).set j (.int .i64 (((vs.drop (j + 1)).sum : Int) + (v : Int)))
                have e0 := restL_set (vs := vs) (j := j) (by rw [Hvl.out]; exact hj)
                rw [Hds.out] at e0
                have e : (ints .i64 (restL vs (j + 1))).set j (.int .i64 (((vs.drop (j + 1)).sum : Int) + (v : Int))) = ints .i64 (restL vs j) := by
                  rw [← e0]
                  simp only [ints, List.map_set]
                  congr 2
                  omega
                rw [e] at h5
                exact h5
              have hwl := HB.lt
              clear hv hu0 HB
              generalize (vs.drop (j + 1)).sum = sm at *
              have p1 : (0 : Int) ≤ (j : Int) := by omega
              have p2 : (j : Int) < (i : Int) + 1 := by omega
              have p3 : (0 : Int) ≤ (j : Int) + 1 := by omega
              have p4 : (j : Int) + 1 < ((i + 2 : Nat) : Int) := by omega
              have p5 : (j : Int) < ((i + 2 : Nat) : Int) := by omega
              have p6 : (j : Int) < ((i + 1 : Nat) : Int) := by omega
              have r1 : IntKind.i64.wrap ((j : Int) + 1) = (j : Int) + 1 := by rw [IntKind.wrap_i64]; omega
              have r2 : IntKind.i64.wrap ((sm : Int) + (v : Int)) = (sm : Int) + (v : Int) := by rw [IntKind.wrap_i64]; omega
              have t1 : ((j : Int) + 1).toNat = j + 1 := by omega
              have t2 : ((j : Int)).toNat = j := by omega
              go_wp2_with fail
              have p7 : (j : Int) + 1 < (i : Int) + 2 := by omega
              have p8 : (j : Int) < (i : Int) + 2 := by omega
              go_big_region
              go_wp2_with fail
              go_roundg j
              case rel =>
                refine ⟨?_, (hbel.setCell (p := ⟨w2.heap.size, j, none⟩) (Nat.le_refl _) _).drew⟩
                rcases Nat.eq_zero_or_pos j with h0 | h0
                · subst h0
                  exact .inr ⟨by go_num, HB2.out⟩
                · exact .inl ⟨j - 1, by omega, by omega, by go_num, by rw [show j - 1 + 1 = j by omega]; exact HB2.out⟩
              case measure => omega
            · rcases Nat.eq_zero_or_pos i with hi0 | hi0
              · have hV0 : V = 0 := Hv0.out hi0
                have e1 : (i : Int) = 0 := by omega
                have hbf : Below w.heap.size w wr := hbelw2.trans (hbel.mono hbelw2.size)
                clear HB
                go_wp2_with fail
                go_ret
                exact ⟨by rw [hV0]; rfl, hbf⟩
              · have hne : ((i : Int) + 1 == 1) = false := by simp; omega
                have hne2 : ¬ (i : Int) + 1 = 1 := by omega
                have hne3 : ¬ (i : Int) = 0 := by omega
                have HB4 := veil HB
                clear HB
                go_wp2_with fail
                rename World => W4
                have hbw4 : Below w.heap.size w W4 := hbelw2.trans (hbel.mono hbelw2.size)
                have hw24 : w2.heap.size < W4.heap.size := HB4.out.lt
                have hw4 : w.heap.size ≤ W4.heap.size := hbw4.size
                clear hbel hbelw2 hsw hne hne2 hne3
                go_loopg [11, 10] 16 (fun gk s t wr => ∃ q : Nat, gk = 16 - q ∧ q ≤ 16 ∧ s = .int .i64 (16 - (q : Int)) ∧ Below W4.heap.size W4 wr ∧ Hid (∀ p, q = p + 1 → ∃ g, t = .slice (some ⟨g, 0, none⟩) (i + 2 : Nat) (i + 2) ∧ W4.heap.size ≤ g ∧ Tab wr g (i + 2) fun r m => dpT p (vs.drop r) m))
                case atStart => exact ⟨0, rfl, by omega, by go_num, Below.refl _ _, fun p hp => by omega⟩
                case round =>
                  obtain ⟨q, rfl, hq, rfl, hbel, HT⟩ := hrel
                  by_cases hq16 : q < 16
                  · have l1 : (1 : Int) ≤ 16 - (q : Int) := by omega
                    have hmk := fun u => run_make_rows (i + 2) (by omega) u
                    rw [show ((i + 2 : Nat) : Int) = (i : Int) + 1 + 1 by omega] at hmk
                    go_wp2_with fail
                    rename World => w5
                    clear hmk
                    have h45 : W4.heap.size ≤ w5.heap.size := hbel.size
                    have HT5 : Hid (∀ p, q = p + 1 → ∃ g, u10 = .slice (some ⟨g, 0, none⟩) (i + 2 : Nat) (i + 2) ∧ W4.heap.size ≤ g ∧ Tab w5 g (i + 2) fun r m => dpT p (vs.drop r) m) := HT
                    clear HT
                    have HB50 : Hid (Blk (w5.alloc (.cells (rows0 (i + 2)).toArray 23)) w5.heap.size (curL w5.heap.size (i + 2) 0) 23) := by
                      show Blk _ _ _ _
                      rw [curL_start]; exact Blk.new w5 _ _
                    go_loopg [110] (i + 2) (fun gk s wr => ∃ r : Nat, gk = i + 2 - r ∧ r ≤ i + 2 ∧ s = .int .i64 (r : Int) ∧ Hid (wr.heap.size = w5.heap.size + 1 + r) ∧ Hid (Blk wr w5.heap.size (curL w5.heap.size (i + 2) r) 23) ∧ Hid (∀ r' m', r' < r → m' < i + 2 → wr.cell? ⟨w5.heap.size + 1 + r', m', none⟩ = some (.int .i64 (dpT q (vs.drop r') m' : Int))) ∧ Below w5.heap.size w5 wr)
                    case atStart => exact ⟨0, rfl, by omega, rfl, by show _ = _; simp, HB50, fun r' m' h => by omega, below1 _ _⟩
                    case round =>
                      clear HB50
                      obtain ⟨r, rfl, hr, rfl, HZ, HB, HC, hb5⟩ := hrel
                      by_cases hr2 : r < i + 2
                      · have l2 : (r : Int) < (i : Int) + 2 := by omega
                        have l3 : (r : Int) < (i : Int) + 1 + 1 := by omega
                        have l4 : (r : Int) < ((i + 2 : Nat) : Int) := by omega
                        have hmk := fun u => run_make_nums (i + 2) (by omega) u
                        rw [show ((i + 2 : Nat) : Int) = (i : Int) + 1 + 1 by omega] at hmk
                        have hgz : w5.heap.size < wr.heap.size := by rw [HZ.out]; omega
                        have hc0 : (wr.alloc (.cells (ints .i64 (List.replicate (i + 2) 0)).toArray 3)).cell? ⟨w5.heap.size, r, none⟩ = some (.slice none 0 0) := by
                          rw [(below1 wr _).cell (by simpa using hgz)]; exact HB.out.cell (curL_next hr2)
                        have hf0 : (wr.alloc (.cells (ints .i64 (List.replicate (i + 2) 0)).toArray 3)).frozen? ⟨w5.heap.size, r, none⟩ = false := by
                          rw [(below1 wr _).frozen (by simpa using hgz)]; exact HB.out.frozen r
                        have tr : ((r : Nat) : Int).toNat = r := by omega
                        have HB6 := veil (HB.out.set r (.slice (some ⟨wr.heap.size, 0, none⟩) (i + 2 : Nat) (i + 2)))
                        have hc1 := HB6.out.cell (i := r) (v := .slice (some ⟨wr.heap.size, 0, none⟩) (i + 2 : Nat) (i + 2)) (List.getElem?_set_self (by simp [curL]; exact hr2))
                        go_wp2_with fail
                        rename World => w6
                        obtain ⟨HB7, HR7, HC7, hb7, HZ7⟩ : Hid (Blk ((w6.setCell ⟨w5.heap.size, r, none⟩ (.slice (some ⟨w6.heap.size, 0, none⟩) (i + 2 : Nat) (i + 2))).alloc (.cells (ints .i64 (List.replicate (i + 2) 0)).toArray 3)) w5.heap.size (curL w5.heap.size (i + 2) (r + 1)) 23) ∧
                            Hid (Blk ((w6.setCell ⟨w5.heap.size, r, none⟩ (.slice (some ⟨w6.heap.size, 0, none⟩) (i + 2 : Nat) (i + 2))).alloc (.cells (ints .i64 (List.replicate (i + 2) 0)).toArray 3)) w6.heap.size (ints .i64 (rowL (dpT q (vs.drop r)) (i + 2) 0)) 3) ∧
                            Hid (∀ r' m', r' < r → m' < i + 2 → ((w6.setCell ⟨w5.heap.size, r, none⟩ (.slice (some ⟨w6.heap.size, 0, none⟩) (i + 2 : Nat) (i + 2))).alloc (.cells (ints .i64 (List.replicate (i + 2) 0)).toArray 3)).cell? ⟨w5.heap.size + 1 + r', m', none⟩ = some (.int .i64 (dpT q (vs.drop r') m' : Int))) ∧
                            Below w5.heap.size w5 ((w6.setCell ⟨w5.heap.size, r, none⟩ (.slice (some ⟨w6.heap.size, 0, none⟩) (i + 2 : Nat) (i + 2))).alloc (.cells (ints .i64 (List.replicate (i + 2) 0)).toArray 3)) ∧
                            Hid (((w6.setCell ⟨w5.heap.size, r, none⟩ (.slice (some ⟨w6.heap.size, 0, none⟩) (i + 2 : Nat) (i + 2))).alloc (.cells (ints .i64 (List.replicate (i + 2) 0)).toArray 3)).heap.size = w6.heap.size + 1) := by
                          have hz6 : (w6.setCell ⟨w5.heap.size, r, none⟩ (.slice (some ⟨w6.heap.size, 0, none⟩) (i + 2 : Nat) (i + 2))).heap.size = w6.heap.size := by simp [World.setCell]
                          generalize hW : w6.setCell ⟨w5.heap.size, r, none⟩ (.slice (some ⟨w6.heap.size, 0, none⟩) (i + 2 : Nat) (i + 2)) = W at *
                          refine ⟨?_, ?_, fun r' m' h1 h2 => ?_, ?_, ?_⟩
                          · have h1 := HB6.out
                            rw [show w6.heap.size = w5.heap.size + 1 + r from HZ.out, curL_set hr2] at h1
                            exact h1.below (below1 _ _) (by rw [hz6]; exact hgz)
                          · show Blk _ _ _ _
                            rw [rowL_start, ← hz6]; exact Blk.new W _ _
                          · rw [(below1 W _).cell (by rw [hz6, HZ.out]; simp; omega), ← hW, World.cell?_of_block (w := w6) (Below.heap_setCell _ _ _ _ (by simp; omega))]
                            exact HC.out r' m' h1 h2
                          · rw [← hW]; exact (hb5.setCell (by simp) _).alloc (by rw [hW, hz6]; omega) _
                          · show _ = _
                            simp [hz6]
                        generalize ((w6.setCell ⟨w5.heap.size, r, none⟩ (.slice (some ⟨w6.heap.size, 0, none⟩) (i + 2 : Nat) (i + 2))).alloc (.cells (ints .i64 (List.replicate (i + 2) 0)).toArray 3)) = W7 at *
                        clear HB6 hc1 hc0 hf0 hmk HB HC hb5
                        go_loopg [125] (i + 2) (fun gk s wr => ∃ m : Nat, gk = i + 2 - m ∧ m ≤ i + 2 ∧ s = .int .i64 (m : Int) ∧ Hid (wr.heap.size = W7.heap.size) ∧ Hid (Blk wr w6.heap.size (ints .i64 (rowL (dpT q (vs.drop r)) (i + 2) m)) 3) ∧ Below w6.heap.size W7 wr)
                        case atStart => exact ⟨0, rfl, by omega, rfl, rfl, HR7, Below.refl _ _⟩
                        case round =>
                          clear HR7
                          obtain ⟨m, rfl, hm, rfl, HZ8, HR, hb8⟩ := hrel
                          by_cases hm2 : m < i + 2
                          · have m2 : (m : Int) < (i : Int) + 2 := by omega
                            have m3 : (m : Int) < (i : Int) + 1 + 1 := by omega
                            have m4 : (m : Int) < ((i + 2 : Nat) : Int) := by omega
                            obtain ⟨lf, hlf⟩ : ∃ lf, lf + r = i + 1 := ⟨i + 1 - r, by omega⟩
                            have HVL : Hid ((vs.drop r).length = lf) := by show _ = _; rw [List.length_drop, Hvl.out]; omega
                            have hcr : wr.cell? ⟨w5.heap.size, r, none⟩ = some (.slice (some ⟨w6.heap.size, 0, none⟩) (i + 2 : Nat) (i + 2)) := by
                              rw [hb8.cell (by simpa using hgz), HZ.out]; exact HB7.out.cell (curL_at hr2 (Nat.lt_succ_self _))
                            obtain ⟨x0, hx0⟩ := rowL_some (T := dpT q (vs.drop r)) (n := i + 2) (m := m) hm2
                            have hcm := HR.out.cell (ints_at (k := .i64) hx0)
                            have hfm := HR.out.frozen m
                            have HRn : Hid (∀ u, Qt wr u → Blk (u.setCell ⟨w6.heap.size, m, none⟩ (.int .i64 (dpT q (vs.drop r) m : Int))) w6.heap.size (ints .i64 (rowL (dpT q (vs.drop r)) (i + 2) (m + 1))) 3) := fun u hu => by
                              have h1 := (hu.blk HR.out).set m (.int .i64 (dpT q (vs.drop r) m : Int))
                              have e : (ints .i64 (rowL (dpT q (vs.drop r)) (i + 2) m)).set m (.int .i64 (dpT q (vs.drop r) m : Int)) = ints .i64 (rowL (dpT q (vs.drop r)) (i + 2) (m + 1)) := by
                                rw [← rowL_set hm2]; simp only [ints, List.map_set]
                              rw [e] at h1; exact h1
                            have tm : ((m : Nat) : Int).toNat = m := by omega
                            clear hx0 HR
                            rcases Nat.eq_zero_or_pos lf with hl0 | hl0
                            · have r1 : IntKind.i64.wrap ((i : Int) + 1 - (r : Int)) = 0 := by rw [IntKind.wrap_i64]; omega
                              have mn : min (m : Int) 0 = 0 := by omega
                              have HD : Hid (dpT q (vs.drop r) m = 0) := dpT_nil _ _ (by rw [HVL.out, hl0])
                              go_wp2_with fail
                              rename World => w8
                              go_loopg [17, 16] 0 (fun gk s t wr => s = .int .i64 0 ∧ t = .int .i64 0 ∧ Qt w8 wr)
                              case atStart => exact ⟨rfl, rfl, Qt.refl _⟩
                              case round =>
                                obtain ⟨rfl, rfl, hqt⟩ := hrel
                                rw [← hqt.cell] at hcr hcm
                                rw [← (hqt.1 (w6.heap.size + 1)).frozen (by simp)] at hfm
                                have Hqt := veil hqt
                                clear hqt
                                go_wp2_with fail
                                go_roundg (i + 2 - (m + 1))
                                case rel =>
                                  refine ⟨m + 1, rfl, by omega, by go_num, ?_, ?_, ?_⟩
                                  · show _ = _
                                    rw [← HZ8.out, ← Hqt.out.2]; simp [World.setCell]
                                  · have h1 := HRn.out _ Hqt.out
                                    rw [HD.out] at h1
                                    exact h1
                                  · exact (hb8.trans (Hqt.out.1 _)).setCell (by simp) _
                                case measure => omega
                            · have r1 : IntKind.i64.wrap ((i : Int) + 1 - (r : Int)) = (lf : Int) := by rw [IntKind.wrap_i64]; omega
                              have l0 : ¬ (lf : Int) = 0 := by omega
                              have l00 : ((lf : Int) == 0) = false := by simp; omega
                              have l01 : ¬ lf = 0 := by omega
                              go_wp2_with fail
                              rename World => w8
                              go_loopg [17, 16] (lf + 1) (fun gk s t wr => ∃ c b : Nat, gk = lf + 1 - c ∧ c ≤ min m lf + 1 ∧ s = .int .i64 (c : Int) ∧ t = .int .i64 (b : Int) ∧ Hid (b = bestV q (vs.drop r) m c) ∧ Qt w8 wr)
                              case atStart => exact ⟨0, far, rfl, by omega, rfl, rfl, (bestV_zero _ _ _).symm, Qt.refl _⟩
                              case round =>
                                obtain ⟨c, b, rfl, hc, rfl, rfl, HBV, hqt⟩ := hrel
                                have hbf : b ≤ 1099511627776 := by rw [HBV.out]; exact bestV_far _ _ _ _
                                by_cases hcm2 : c ≤ min m lf
                                · have g1 : (c : Int) ≤ min (m : Int) (lf : Int) := by omega
                                  have g2 : (0 : Int) < (lf : Int) := by omega
                                  have g3 : decide ((c : Int) ≤ min (m : Int) (lf : Int)) = true := decide_eq_true g1
                                  rcases Nat.lt_or_ge c lf with hcl | hcl
                                  · have g4 : ¬ (c : Int) = (lf : Int) := by omega
                                    have g5 : ¬ c = lf := by omega
                                    rcases Nat.eq_zero_or_pos q with hq0 | hq0
                                    · have g6 : ¬ 16 - (q : Int) < 16 := by omega
                                      have HBn : Hid (b = bestV q (vs.drop r) m (c + 1)) := by
                                        show _ = _
                                        rw [HBV.out, hq0, bestV_none (by rw [HVL.out]; exact hcl)]
                                      clear HBV hq0
                                      go_wp2_with fail
                                      go_roundg (lf + 1 - (c + 1))
                                      case rel => exact ⟨c + 1, b, rfl, by omega, by go_num, rfl, HBn, hqt⟩
                                      case measure => omega
                                    · have g6 : 16 - (q : Int) < 16 := by omega
                                      obtain ⟨p, hp⟩ : ∃ p, q = p + 1 := ⟨q - 1, by omega⟩
                                      obtain ⟨gl, hu10, hgl, HTab⟩ := HT5.out p hp
                                      subst hu10
                                      have hb9 : Below w5.heap.size w5 wr := hb7.trans ((hb8.mono (by omega)).trans (hqt.1 _))
                                      have HT9 := HTab.below hb9 (Nat.le_refl _)
                                      have HB9 := (HB4.out.below hbel hw24).below hb9 (Nat.lt_of_lt_of_le hw24 h45)
                                      obtain ⟨rc, hrc⟩ : ∃ rc, rc = r + c := ⟨_, rfl⟩
                                      obtain ⟨e1, he1⟩ : ∃ e1, e1 = m - c := ⟨_, rfl⟩
                                      obtain ⟨e2, he2⟩ : ∃ e2, e2 = 2 * e1 := ⟨_, rfl⟩
                                      obtain ⟨e3, he3⟩ : ∃ e3, e3 = lf - c := ⟨_, rfl⟩
                                      obtain ⟨e4, he4⟩ : ∃ e4, e4 = min e2 e3 := ⟨_, rfl⟩
                                      have d1 := HB9.cell (ints_at (k := .i64) (restL_at (vs := vs) (q := 0) (j := rc) (by rw [Hvl.out]; omega) (Nat.zero_le _)))
                                      have d2 := HT9.1 rc (by omega)
                                      have d3 : wr.cell? ⟨gl + 1 + rc, e4, none⟩ = some (.int .i64 (dpT p (vs.drop rc) e4 : Int)) := HT9.2.1 rc e4 (by omega) (by omega)
                                      have hsm := HSum.out rc
                                      have hdv := dpT_far p (vs.drop rc) e4
                                      have HBn : Hid (bestV q (vs.drop r) m (c + 1) = min b ((vs.drop rc).sum + dpT p (vs.drop rc) e4)) := by
                                        show _ = _
                                        rw [HBV.out, hp, bestV_step (by rw [HVL.out]; exact hcl), List.drop_drop, ← hrc, HVL.out, ← he1, ← he2, ← he3, ← he4]
                                      generalize (vs.drop rc).sum = sm at *
                                      generalize dpT p (vs.drop rc) e4 = dv at *
                                      have hdv2 : dv ≤ 1099511627776 := hdv
                                      obtain ⟨tot, htot⟩ : ∃ tot, tot = sm + dv := ⟨_, rfl⟩
                                      obtain ⟨b', hb'⟩ : ∃ b', b' = min b tot := ⟨_, rfl⟩
                                      have s1 : IntKind.i64.wrap ((r : Int) + (c : Int)) = (rc : Int) := by rw [IntKind.wrap_i64]; omega
                                      have s2 : IntKind.i64.wrap ((m : Int) - (c : Int)) = (e1 : Int) := by rw [IntKind.wrap_i64]; omega
                                      have s3 : IntKind.i64.wrap (2 * (e1 : Int)) = (e2 : Int) := by rw [IntKind.wrap_i64]; omega
                                      have s4 : IntKind.i64.wrap ((lf : Int) - (c : Int)) = (e3 : Int) := by rw [IntKind.wrap_i64]; omega
                                      have s5 : min (e2 : Int) (e3 : Int) = (e4 : Int) := by omega
                                      have s6 : IntKind.i64.wrap ((sm : Int) + (dv : Int)) = (tot : Int) := by rw [IntKind.wrap_i64]; omega
                                      have s7 : min (b : Int) (tot : Int) = (b' : Int) := by omega
                                      have s8 : (rc : Int) < (i : Int) + 2 := by omega
                                      have s9 : (e4 : Int) < (i : Int) + 2 := by omega
                                      have t8 : (rc : Int) < ((i + 2 : Nat) : Int) := by omega
                                      have t9 : (e4 : Int) < ((i + 2 : Nat) : Int) := by omega
                                      have v8 : (0 : Int) ≤ (rc : Int) := by omega
                                      have v9 : (0 : Int) ≤ (e4 : Int) := by omega
                                      have n8 : ((rc : Nat) : Int).toNat = rc := by omega
                                      have n9 : ((e4 : Nat) : Int).toNat = e4 := by omega
                                      have HBn2 : Hid (b' = bestV q (vs.drop r) m (c + 1)) := by
                                        show _ = _
                                        rw [HBn.out, hb', htot]
                                      clear HBn HBV hdv hrc he1 he2 he3 he4 htot hb' HT9 HB9 HTab hp
                                      go_wp2_with fail
                                      go_big_region
                                      go_wp2_with fail
                                      go_roundg (lf + 1 - (c + 1))
                                      case rel => exact ⟨c + 1, b', rfl, by omega, by go_num, by go_num, HBn2, hqt.drew⟩
                                      case measure => omega
                                  · have e : lf = c := by omega
                                    subst e
                                    have HBn : Hid ((0 : Nat) = bestV q (vs.drop r) m (lf + 1)) := (bestV_hit HVL.out.symm).symm
                                    clear HBV
                                    go_wp2_with fail
                                    go_roundg (lf + 1 - (lf + 1))
                                    case rel => exact ⟨lf + 1, 0, rfl, by omega, by go_num, rfl, HBn, hqt⟩
                                    case measure => omega
                                · have g1 : ¬ (c : Int) ≤ min (m : Int) (lf : Int) := by omega
                                  have g3 : decide ((c : Int) ≤ min (m : Int) (lf : Int)) = false := decide_eq_false g1
                                  have HD : Hid (dpT q (vs.drop r) m = b) := by
                                    show _ = _
                                    rw [HBV.out, show c = min m (vs.drop r).length + 1 by rw [HVL.out]; omega, bestV_end]
                                  clear HBV
                                  rw [← hqt.cell] at hcr hcm
                                  rw [← (hqt.1 (w6.heap.size + 1)).frozen (by simp)] at hfm
                                  have Hqt := veil hqt
                                  clear hqt
                                  go_wp2_with fail
                                  go_roundg (i + 2 - (m + 1))
                                  case rel =>
                                    refine ⟨m + 1, rfl, by omega, by go_num, ?_, ?_, ?_⟩
                                    · show _ = _
                                      rw [← HZ8.out, ← Hqt.out.2]; simp [World.setCell]
                                    · have h1 := HRn.out _ Hqt.out
                                      rw [HD.out] at h1
                                      exact h1
                                    · exact (hb8.trans (Hqt.out.1 _)).setCell (by simp) _
                                  case measure => omega
                          · have m2 : ¬ (m : Int) < (i : Int) + 2 := by omega
                            have m4 : ¬ (m : Int) < ((i + 2 : Nat) : Int) := by omega
                            obtain rfl : m = i + 2 := by omega
                            have HBn : Hid (Blk wr w5.heap.size (curL w5.heap.size (i + 2) (r + 1)) 23) := HB7.out.below hb8 hgz
                            have HCn : Hid (∀ r' m', r' < r + 1 → m' < i + 2 → wr.cell? ⟨w5.heap.size + 1 + r', m', none⟩ = some (.int .i64 (dpT q (vs.drop r') m' : Int))) := fun r' m' h1 h2 => by
                              rcases Nat.lt_or_ge r' r with h3 | h3
                              · rw [hb8.cell (by simp; rw [HZ.out]; omega)]; exact HC7.out r' m' h3 h2
                              · obtain rfl : r' = r := by omega
                                have h4 := HR.out.cell (ints_at (k := .i64) (rowL_at (T := dpT q (vs.drop r')) h2 h2))
                                rw [HZ.out] at h4
                                exact h4
                            have HZn : Hid (wr.heap.size = w5.heap.size + 1 + (r + 1)) := by show _ = _; rw [HZ8.out, HZ7.out, HZ.out]; omega
                            have hbn : Below w5.heap.size w5 wr := hb7.trans (hb8.mono (by omega))
                            clear HR HB7 HC7 hb7 hb8 HZ8 HZ7
                            go_wp2_with fail
                            go_roundg (i + 2 - (r + 1))
                            case rel => exact ⟨r + 1, rfl, by omega, by go_num, HZn, HBn, HCn, hbn⟩
                            case measure => omega
                      · have l2 : ¬ (r : Int) < (i : Int) + 2 := by omega
                        have l4 : ¬ (r : Int) < ((i + 2 : Nat) : Int) := by omega
                        obtain rfl : r = i + 2 := by omega
                        have HTn : Hid (Tab wr w5.heap.size (i + 2) fun r m => dpT q (vs.drop r) m) := ⟨fun r hr => HB.out.cell (curL_at hr hr), fun r m hr hm => HC.out r m hr hm, by rw [HZ.out]; omega⟩
                        have hbn : Below W4.heap.size W4 wr := hbel.trans (hb5.mono h45)
                        clear HB HC hb5 HZ HT5
                        go_wp2_with fail
                        go_roundg (16 - (q + 1))
                        case rel =>
                          refine ⟨q + 1, rfl, by omega, by go_num, hbn, fun p hp => ?_⟩
                          have e : q = p := by omega
                          subst e
                          exact ⟨_, rfl, h45, HTn.out⟩
                        case measure => omega
                  · have l1 : ¬ (1 : Int) ≤ 16 - (q : Int) := by omega
                    obtain ⟨gl, hu10, hgl, HTab⟩ := HT.out 15 (by omega)
                    subst hu10
                    have d1 := (HB4.out.below hbel hw24).cell (ints_at (k := .i64) (restL_at (vs := vs) (q := 0) (j := 0) (Nat.zero_le _) (Nat.zero_le _)))
                    have d2 := HTab.1 0 (by omega)
                    have d3 : wr.cell? ⟨gl + 1, 2, none⟩ = some (.int .i64 (dpT 15 (vs.drop 0) 2 : Int)) := HTab.2.1 0 2 (by omega) (by omega)
                    have hsm := HSum.out 0
                    have hdv := dpT_far 15 vs 2
                    rw [List.drop_zero] at d1 d3 hsm
                    have hA := HAns.out
                    generalize vs.sum = sm at *
                    generalize dpT 15 vs 2 = dv at *
                    have hdv2 : dv ≤ 1099511627776 := hdv
                    have s6 : IntKind.i64.wrap ((sm : Int) + (dv : Int)) = (V : Int) := by rw [IntKind.wrap_i64]; omega
                    have i2 : (2 : Int) < (i : Int) + 2 := by omega
                    have i3 : (0 : Int) < (i : Int) + 2 := by omega
                    have i4 : (2 : Int) < ((i + 2 : Nat) : Int) := by omega
                    have i5 : (0 : Int) < ((i + 2 : Nat) : Int) := by omega
                    have i6 : 2 < i + 2 := by omega
                    have i7 : 0 < i + 2 := by omega
                    have hbf : Below w.heap.size w wr := hbw4.trans (hbel.mono hw4)
                    clear hdv hA HAns HTab HT HB4
                    go_wp2_with fail
                    go_big_region
                    go_wp2_with fail
                    go_ret
                    exact ⟨by first | rfl | (rw [s6]), hbf.drew⟩
end Go.Proofs.Ythelblkpfkngmaa
