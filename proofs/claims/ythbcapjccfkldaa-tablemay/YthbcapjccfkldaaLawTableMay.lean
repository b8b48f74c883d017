/- TableMay returns true: lengths may be just where they leave room. -/
import Derived.Test.YthbcapjccfkldaaTabled
import Derived.Test.YthbcapjccfkldaaBlk
import Derived.Test.YthbcapjccfkldaaElemInt
import Derived.Test.YthbcapjccfkldaaRest
namespace Go.Proofs.Ythbcapjccfkldaa
open Go.RowKit
set_option linter.unusedVariables false
set_option linter.unusedSimpArgs false

/-- The counts that the law makes of what it is given. -/
def nsOf (counts : List Int) : List Nat := (List.range 16).map fun k => ((counts[k]?.getD 0) % 5).toNat
theorem nsOf_length (counts : List Int) : (nsOf counts).length = 16 := by simp [nsOf]
theorem nsOf_at {counts : List Int} {k : Nat} (hk : k < 16) : (nsOf counts)[k]? = some ((counts[k]?.getD 0) % 5).toNat := by simp [nsOf, hk]
theorem nsOf_small {counts : List Int} {k n : Nat} (h : (nsOf counts)[k]? = some n) : n ≤ 4 := by
  have hk : k < 16 := by have := (List.getElem?_eq_some_iff.1 h).1; rw [nsOf_length] at this; exact this
  rw [nsOf_at hk] at h
  injection h with h
  omega
theorem roomOf_snoc : ∀ (l : List Nat) (k n : Nat), roomOf k (l ++ [n]) = roomOf k l + n * 2 ^ (15 - (k + l.length))
  | [], k, n => by simp [roomOf]
  | m :: l, k, n => by
    simp only [List.cons_append, roomOf, roomOf_snoc l (k + 1) n, List.length_cons]
    rw [show k + 1 + l.length = k + (l.length + 1) by omega]
    omega
/-- The counts when k of them are set. -/
def cnt (ns : List Nat) (k : Nat) : List Int := natI (ns.take k) ++ List.replicate (16 - k) 0
theorem cnt_length {ns : List Nat} (h : ns.length = 16) {k : Nat} (hk : k ≤ 16) : (cnt ns k).length = 16 := by simp [cnt, natI]; omega
theorem cnt_zero (ns : List Nat) : cnt ns 0 = List.replicate 16 0 := by simp [cnt, natI]
theorem cnt_done {ns : List Nat} (h : ns.length = 16) : cnt ns 16 = natI ns := by simp [cnt, ← h]
theorem cnt_next {ns : List Nat} {k n : Nat} (h : ns.length = 16) (hk : k < 16) (hn : ns[k]? = some n) : (cnt ns k).set k (n : Int) = cnt ns (k + 1) := by
  have hl : (natI (ns.take k)).length = k := by rw [natI_length]; simp; omega
  unfold cnt
  rw [List.set_append_right _ _ (by omega), hl, Nat.sub_self, show 16 - k = (16 - (k + 1)) + 1 by omega, List.replicate_succ, List.set_cons_zero, take_snoc hn]
  simp [natI]
theorem cnt_stay {ns : List Nat} {k : Nat} (h : ns.length = 16) (hk : k < 16) (hn : ns[k]? = some 0) : cnt ns (k + 1) = cnt ns k := by
  unfold cnt
  rw [take_snoc hn, show 16 - k = (16 - (k + 1)) + 1 by omega, List.replicate_succ]
  simp [natI]
theorem cnt_at {ns : List Nat} {k n : Nat} (h : ns.length = 16) (hk : k < 16) (hn : ns[k]? = some n) : (cnt ns (k + 1))[k]? = some (n : Int) := by
  have hl : (natI (ns.take (k + 1))).length = k + 1 := by rw [natI_length]; simp; omega
  unfold cnt
  rw [List.getElem?_append_left (by omega)]
  simp [natI, hn]
def upTo (n : Nat) : List Int := (List.range n).map Int.ofNat
theorem upTo_length (n : Nat) : (upTo n).length = n := by simp [upTo]
theorem upTo_succ (n : Nat) : upTo (n + 1) = upTo n ++ [(n : Int)] := by simp [upTo, List.range_succ]
theorem tab_set_count {cs : List Int} {A : Option Addr} {n c k : Nat} {x : Int} (hk : k < cs.length) : (tabCells cs A n c).set k (.int .i64 x) = tabCells (cs.set k x) A n c := by
  unfold tabCells
  rw [List.set_append_left _ _ (by rw [ints_length]; exact hk)]
  simp [ints, List.map_set]
theorem tab_set_syms {cs : List Int} {A A' : Option Addr} {n n' c c' : Nat} (h : cs.length = 16) : (tabCells cs A n c).set 16 (.slice A' n' c') = tabCells cs A' n' c' := by
  unfold tabCells; rw [List.set_append_right _ _ (by rw [ints_length]; omega), ints_length, h]; rfl
theorem tab_count {cs : List Int} {A : Option Addr} {n c k : Nat} {x : Int} (h : cs[k]? = some x) : (tabCells cs A n c)[k]? = some (.int .i64 x) := by
  unfold tabCells
  rw [List.getElem?_append_left (by rw [ints_length]; exact (List.getElem?_eq_some_iff.1 h).1)]
  exact ints_at h
theorem sumW_natI (ns : List Nat) : sumW (natI ns) = (ns.sum : Int) := by
  induction ns with
  | nil => rfl
  | cons n ns ih => simp [natI, sumW] at ih ⊢; omega
theorem nats_natI (ns : List Nat) : nats (natI ns) = ns := by
  unfold nats natI
  rw [List.map_map]
  conv => rhs; rw [← List.map_id ns]
  exact List.map_congr_left fun x _ => by simp
theorem sum_le4 (ns : List Nat) (h : ∀ n ∈ ns, n ≤ 4) : ns.sum ≤ 4 * ns.length := by
  induction ns with
  | nil => simp
  | cons n ns ih => have h1 := h n (by simp); have h2 := ih fun m hm => h m (by simp [hm]); simp; omega
/-- What Check says of it. -/
theorem may_check {ns : List Nat} (h : ns.length = 16) (h4 : ∀ n ∈ ns, n ≤ 4) : (checkErr (natI ns) (upTo ns.sum) == 0) = decide (roomOf 0 ns < 65536) := by
  have hs := sum_le4 ns h4
  have hg : Good (natI ns) (upTo ns.sum).length := by
    refine ⟨fun x hx => ?_, ?_, ?_⟩
    · simp only [natI, List.mem_map] at hx; obtain ⟨n, _, rfl⟩ := hx; exact Int.natCast_nonneg n
    · rw [sumW_natI]; omega
    · rw [sumW_natI, upTo_length]
  have hk : SymOk (upTo ns.sum) := by
    intro s hs'
    simp only [upTo, List.mem_map, List.mem_range] at hs'
    obtain ⟨n, hn, rfl⟩ := hs'
    show (0 : Int) ≤ (n : Int) ∧ (n : Int) ≤ 255
    omega
  have hnd : (upTo ns.sum).Nodup := by
    unfold upTo
    rw [List.nodup_iff_pairwise_ne, List.pairwise_map]
    refine (List.nodup_iff_pairwise_ne.1 List.nodup_range).imp fun hab e => hab ?_
    exact Int.ofNat.inj e
  rw [Bool.eq_iff_iff, decide_eq_true_iff, ← codes_room h, beq_iff_eq]
  constructor
  · intro he
    have := (checkErr_zero he).2.2.1
    rwa [nats_natI] at this
  · intro hc
    exact checkErr_ok hg hk (by rw [nats_natI]; exact hc) hnd

set_option maxRecDepth 100000 in
set_option maxHeartbeats 2000000 in
theorem tableMay_walk (A : Option Addr) (c : Nat) (counts : List Int) (w : World) (hx : Seen w w.heap.size A (ints .i64 counts)) (hxw : ∀ x ∈ counts, (Lit.int .i64 x).wf = true) (hxl : counts.length ≤ maxLen) :
    Calls Try.prog 9 #[.slice A counts.length c] w fun e w' => e = .returned (.bool true) ∧ Below w.heap.size w w' := by
  have Hxw := veil hxw; clear hxw
  unfold maxLen at hxl
  go_enter Try.func9, Try.ntmps9
  go_wp2_with fail
  refine (tabled_any _).mono ?_
  rintro e w0 ⟨rfl, hbel0⟩
  have hz0 := hbel0.size
  obtain ⟨ns, hns⟩ : ∃ ns, ns = nsOf counts := ⟨_, rfl⟩
  have hnl : ns.length = 16 := by rw [hns]; exact nsOf_length _
  have Hnl := veil hnl; have Hns := veil hns
  clear hnl hns
  go_wp2_with fail
  go_loopg [4, 5, 6, 9] 16 (fun gk rv av k0 i wr => ∃ (k R n : Nat) (A' : Option Addr) (c' : Nat), gk = 16 - k ∧ k ≤ 16 ∧ i = .int .i64 k ∧ rv = .int .i64 R ∧ av = .int .i64 n ∧ Hid (R = roomOf 0 (ns.take k)) ∧ R ≤ k * 131072 ∧ Hid (n = (ns.take k).sum) ∧ n ≤ 4 * k ∧
    Blk wr w0.heap.size (tabCells (cnt ns k) A' n c') 25 ∧ Owns (w0.heap.size + 1) [numRow (.slice A' n c') (upTo n)] wr ∧ Below w0.heap.size w0 wr)
  case atStart =>
    refine ⟨0, 0, 0, none, 0, rfl, by omega, rfl, rfl, rfl, veil rfl, by omega, veil rfl, by omega, ?_, (Owns.nil (by simp)).fresh _ _, below1 _ _⟩
    exact Blk.new w0 (tabCells (cnt ns 0) none 0 0) 25
  case round =>
    obtain ⟨k, R, n, A', c', rfl, hk, rfl, rfl, rfl, HR, hR, Hn, hn, HB, HO, hbel⟩ := hrel
    have hz := hbel.size
    have hw16 := HB.lt
    by_cases hlt : k < 16
    · obtain ⟨q, hq⟩ := some_at (xs := ns) (j := k) (by rw [Hnl.out]; omega)
      have hq4 : q ≤ 4 := by have h := hq; rw [Hns.out] at h; exact nsOf_small h
      have hjq2 := hq4
      have Hq := veil hq; clear hq
      have hcl1 := cnt_length Hnl.out (k := k + 1) (by omega)
      have Hcl1 := veil hcl1; clear hcl1
      have hcl := cnt_length Hnl.out hk
      obtain ⟨y, hy⟩ := some_at (xs := cnt ns k) (j := k) (by rw [hcl]; omega)
      have dk := HB.cell (tab_count (A := A') (n := n) (c := c') hy)
      have fk := HB.frozen k
      have Hcl := veil hcl
      clear hcl hy
      by_cases hkc : k < counts.length
      · obtain ⟨g, o, x, rfl, hg, hxk, h1⟩ := hx.int hkc
        rw [← hbel0.cell (by simp; omega), ← hbel.cell (by simp; omega)] at h1
        have hqx : x % 5 = (q : Int) := by
          have h := Hq.out
          rw [Hns.out, nsOf_at hlt, hxk] at h
          injection h with h
          simp only [Option.getD_some] at h
          omega
        have hrs := veil (rest_any x 5 wr (by omega) (by omega) (bounds_i64 (Hxw.out x (List.mem_of_getElem? hxk))))
        have hkc' : (k : Int) < (counts.length : Int) := by omega
        rw [hqx] at hrs
        clear hxk hqx
        go_wp2_with fail
        refine hrs.out.mono ?_
        rintro e wr' ⟨rfl, rfl⟩
        go_wp2_with fail
        have HB1 : Blk (wr.setCell ⟨w0.heap.size, k, none⟩ (.int .i64 (q : Int))) w0.heap.size (tabCells (cnt ns (k + 1)) A' n c') 25 := by
          have h5 := HB.set k (.int .i64 (q : Int))
          rw [tab_set_count (by rw [Hcl.out]; exact hlt), cnt_next Hnl.out hlt Hq.out] at h5
          exact h5
        have HO1 : Owns (w0.heap.size + 1) [numRow (.slice A' n c') (upTo n)] (wr.setCell ⟨w0.heap.size, k, none⟩ (.int .i64 (q : Int))) := HO.setCell (by simp) _
        have hbel1 : Below w0.heap.size w0 (wr.setCell ⟨w0.heap.size, k, none⟩ (.int .i64 (q : Int))) := hbel.setCell (by simp) _
        clear hrs dk fk HB HO hbel
        go_loopg [5, 28] q (fun gk av i wr2 => ∃ (j : Nat) (A2 : Option Addr) (c2 : Nat), gk = q - j ∧ j ≤ q ∧ i = .int .i64 j ∧ av = .int .i64 ((n + j : Nat) : Int) ∧ Blk wr2 w0.heap.size (tabCells (cnt ns (k + 1)) A2 (n + j) c2) 25 ∧ Owns (w0.heap.size + 1) [numRow (.slice A2 (n + j) c2) (upTo (n + j))] wr2 ∧ Below w0.heap.size w0 wr2)
        case atStart => exact ⟨0, A', c', rfl, Nat.zero_le _, rfl, rfl, HB1, HO1, hbel1⟩
        case round =>
          clear HB1 HO1 hbel1
          obtain ⟨j, A2, c2, rfl, hj, rfl, rfl, HB2, HO2, hbel2⟩ := hrel
          have hw2 := HB2.lt
          by_cases hjq : j < q
          · have d16 := HB2.cell (tabCells_last Hcl1.out)
            have fz := HB2.frozen 16
            have hul := upTo_length (n + j)
            have Hul := veil hul; clear hul
            go_wp2_with (first
              | (at_builtin; go_loud (refine wpList_ownS _ rfl (.tmp 31) (.tmp 33) _ rfl (w0.heap.size + 1) 3 .i64 8 elem_int (.slice A2 (n + j) c2) (upTo (n + j)) [] rfl HO2 [_] (n + j + 1) (by rw [Hul.out]; rfl) rfl (by rw [Hul.out]; unfold maxLen; simp; omega) (by rw [Hul.out]; simp; omega) ?_); intro A4 c4 w4 HO4 hb4 hz4; have d16' := (hb4.cell (by simp)).trans d16; have fz' := (hb4.frozen (by simp)).trans fz)
              | fail)
            have hB5 : Blk (w4.setCell ⟨w0.heap.size, 16, none⟩ (.slice A4 (n + j + 1) c4)) w0.heap.size (tabCells (cnt ns (k + 1)) A4 (n + j + 1) c4) 25 := by
              have h5 := (HB2.below hb4 (by omega)).set 16 (.slice A4 (n + j + 1) c4)
              rw [tab_set_syms Hcl1.out] at h5; exact h5
            go_roundg (q - (j + 1))
            case rel => exact ⟨j + 1, A4, c4, rfl, by omega, by go_num, by go_num, hB5, by rw [show n + (j + 1) = n + j + 1 from rfl, upTo_succ]; exact HO4.setCell (by simp) _, (hbel2.trans (hb4.mono (by omega))).setCell (by simp) _⟩
            case measure => omega
          · obtain rfl : j = q := by omega
            have dk2 := HB2.cell (tab_count (A := A2) (n := n + j) (c := c2) (cnt_at Hnl.out hlt Hq.out))
            obtain ⟨D, hD⟩ : ∃ D, D = 15 - k := ⟨_, rfl⟩
            have hpD : 2 ^ D ≤ 2 ^ 15 := Nat.pow_le_pow_right (by omega) (by omega)
            have hroom : R + j * 2 ^ D = roomOf 0 (ns.take (k + 1)) := by
              rw [take_snoc Hq.out, roomOf_snoc, ← HR.out, List.length_take, Hnl.out, Nat.min_eq_left (by omega), Nat.zero_add, hD]
            have hsum : n + j = (ns.take (k + 1)).sum := by rw [take_sum Hq.out, ← Hn.out]
            obtain ⟨P, hP⟩ : ∃ P, P = j * 2 ^ D := ⟨_, rfl⟩
            have hPle : P ≤ 131072 := by rw [hP]; exact Nat.le_trans (Nat.mul_le_mul hjq2 hpD) (by decide)
            have hsh : wrap64 ((j : Int) * 2 ^ (15 - k)) = (P : Int) := by
              rw [← hD, show ((j : Int) * 2 ^ D) = ((j * 2 ^ D : Nat) : Int) by simp, ← hP]
              unfold wrap64; omega
            rw [← hP] at hroom
            have Hroom := veil hroom; have Hsum := veil hsum; have Hsh := veil hsh
            clear hroom hsum hP hpD hsh hD
            go_wp2_with fail
            go_roundg (16 - (k + 1))
            case rel => exact ⟨k + 1, R + P, n + j, A2, c2, rfl, by omega, by go_num, congrArg (Value.int .i64) (by rw [Hsh.out]; unfold wrap64; omega), by go_num, Hroom, by omega, Hsum, by omega, HB2, HO2, hbel2⟩
            case measure => omega
      · have hq0 : q = 0 := by
          have h := Hq.out
          rw [Hns.out, nsOf_at hlt, List.getElem?_eq_none (by omega)] at h
          injection h with h
          simpa using h.symm
        have HB1 : Blk wr w0.heap.size (tabCells (cnt ns (k + 1)) A' n c') 25 := by rw [cnt_stay Hnl.out hlt (by rw [← hq0]; exact Hq.out)]; exact HB
        have dk2 := HB1.cell (tab_count (A := A') (n := n) (c := c') (cnt_at Hnl.out hlt Hq.out))
        have HO1 := HO
        have hbel1 := hbel
        have hkc' : ¬ (k : Int) < (counts.length : Int) := by omega
        clear hq0 dk fk HB HO hbel
        go_wp2_with fail
        go_loopg [5, 28] q (fun gk av i wr2 => ∃ (j : Nat) (A2 : Option Addr) (c2 : Nat), gk = q - j ∧ j ≤ q ∧ i = .int .i64 j ∧ av = .int .i64 ((n + j : Nat) : Int) ∧ Blk wr2 w0.heap.size (tabCells (cnt ns (k + 1)) A2 (n + j) c2) 25 ∧ Owns (w0.heap.size + 1) [numRow (.slice A2 (n + j) c2) (upTo (n + j))] wr2 ∧ Below w0.heap.size w0 wr2)
        case atStart => exact ⟨0, A', c', rfl, Nat.zero_le _, rfl, rfl, HB1, HO1, hbel1⟩
        case round =>
          clear HB1 HO1 hbel1
          obtain ⟨j, A2, c2, rfl, hj, rfl, rfl, HB2, HO2, hbel2⟩ := hrel
          have hw2 := HB2.lt
          by_cases hjq : j < q
          · have d16 := HB2.cell (tabCells_last Hcl1.out)
            have fz := HB2.frozen 16
            have hul := upTo_length (n + j)
            have Hul := veil hul; clear hul
            go_wp2_with (first
              | (at_builtin; go_loud (refine wpList_ownS _ rfl (.tmp 31) (.tmp 33) _ rfl (w0.heap.size + 1) 3 .i64 8 elem_int (.slice A2 (n + j) c2) (upTo (n + j)) [] rfl HO2 [_] (n + j + 1) (by rw [Hul.out]; rfl) rfl (by rw [Hul.out]; unfold maxLen; simp; omega) (by rw [Hul.out]; simp; omega) ?_); intro A4 c4 w4 HO4 hb4 hz4; have d16' := (hb4.cell (by simp)).trans d16; have fz' := (hb4.frozen (by simp)).trans fz)
              | fail)
            have hB5 : Blk (w4.setCell ⟨w0.heap.size, 16, none⟩ (.slice A4 (n + j + 1) c4)) w0.heap.size (tabCells (cnt ns (k + 1)) A4 (n + j + 1) c4) 25 := by
              have h5 := (HB2.below hb4 (by omega)).set 16 (.slice A4 (n + j + 1) c4)
              rw [tab_set_syms Hcl1.out] at h5; exact h5
            go_roundg (q - (j + 1))
            case rel => exact ⟨j + 1, A4, c4, rfl, by omega, by go_num, by go_num, hB5, by rw [show n + (j + 1) = n + j + 1 from rfl, upTo_succ]; exact HO4.setCell (by simp) _, (hbel2.trans (hb4.mono (by omega))).setCell (by simp) _⟩
            case measure => omega
          · obtain rfl : j = q := by omega
            have dk2 := HB2.cell (tab_count (A := A2) (n := n + j) (c := c2) (cnt_at Hnl.out hlt Hq.out))
            obtain ⟨D, hD⟩ : ∃ D, D = 15 - k := ⟨_, rfl⟩
            have hpD : 2 ^ D ≤ 2 ^ 15 := Nat.pow_le_pow_right (by omega) (by omega)
            have hroom : R + j * 2 ^ D = roomOf 0 (ns.take (k + 1)) := by
              rw [take_snoc Hq.out, roomOf_snoc, ← HR.out, List.length_take, Hnl.out, Nat.min_eq_left (by omega), Nat.zero_add, hD]
            have hsum : n + j = (ns.take (k + 1)).sum := by rw [take_sum Hq.out, ← Hn.out]
            obtain ⟨P, hP⟩ : ∃ P, P = j * 2 ^ D := ⟨_, rfl⟩
            have hPle : P ≤ 131072 := by rw [hP]; exact Nat.le_trans (Nat.mul_le_mul hjq2 hpD) (by decide)
            have hsh : wrap64 ((j : Int) * 2 ^ (15 - k)) = (P : Int) := by
              rw [← hD, show ((j : Int) * 2 ^ D) = ((j * 2 ^ D : Nat) : Int) by simp, ← hP]
              unfold wrap64; omega
            rw [← hP] at hroom
            have Hroom := veil hroom; have Hsum := veil hsum; have Hsh := veil hsh
            clear hroom hsum hP hpD hsh hD
            go_wp2_with fail
            go_roundg (16 - (k + 1))
            case rel => exact ⟨k + 1, R + P, n + j, A2, c2, rfl, by omega, by go_num, congrArg (Value.int .i64) (by rw [Hsh.out]; unfold wrap64; omega), by go_num, Hroom, by omega, Hsum, by omega, HB2, HO2, hbel2⟩
            case measure => omega
    · obtain rfl : k = 16 := by omega
      have hca := cnt_done Hnl.out
      have htk : ns.take 16 = ns := List.take_of_length_le (by rw [Hnl.out]; omega)
      have hR2 := HR.out
      have hn2 := Hn.out
      rw [htk] at hR2 hn2
      rw [hca] at HB
      have hsm : ∀ m ∈ ns, m ≤ 4 := by
        intro m hm
        obtain ⟨i, hi⟩ := List.getElem?_of_mem hm
        rw [Hns.out] at hi
        exact nsOf_small hi
      have hmc := may_check Hnl.out hsm
      rw [← hR2, ← hn2] at hmc
      obtain ⟨A7, c7, e7, hs7, _, _⟩ := HO.seen (List.mem_cons_self ..)
      simp only [numRow, intRow, upTo_length, Value.slice.injEq, true_and] at e7 hs7
      obtain ⟨rfl, rfl⟩ := e7
      have hcb : ∀ x ∈ natI ns, -9223372036854775808 ≤ x ∧ x ≤ 9223372036854775807 := by
        intro x hx
        simp only [natI, List.mem_map] at hx
        obtain ⟨m, hm, rfl⟩ := hx
        have := hsm m hm
        show -9223372036854775808 ≤ (m : Int) ∧ (m : Int) ≤ 9223372036854775807
        omega
      have hck := check_any (natI ns) (upTo n) A' c' wr.heap.size wr (by rw [natI_length]; exact Hnl.out) (by rw [upTo_length]; unfold maxLen; omega) hcb hs7 (Nat.le_refl _)
      rw [upTo_length] at hck
      unfold tabV at hck
      have Hck := veil hck; have Hr5 := veil HB.range; have H175 := veil (tabCells_length (A := A') (n := n) (c := c') (show (natI ns).length = 16 by rw [natI_length]; exact Hnl.out))
      obtain ⟨E, hE⟩ : ∃ E, E = checkErr (natI ns) (upTo n) := ⟨_, rfl⟩
      rw [← hE] at hmc Hck
      have Hmc := veil hmc
      clear hck hcb hsm hmc hE HO hR2 hn2 htk hca
      go_wp2_with (first
        | (refine wpList_load_mid rfl 25 (.tmp 3) rfl w0.heap.size 0 rfl (tabCells (natI ns) A' n c') _ Hr5.out Try.underlying25 rfl (by rw [H175.out]; exact info_tab) ?_)
        | fail)
      refine Hck.out.mono ?_
      rintro e w5 ⟨rfl, hb5⟩
      go_wp2
      go_ret
      refine ⟨ret_bool ?_, hbel0.trans ((hbel.trans (hb5.mono hz)).mono hz0)⟩
      have := Hmc.out
      simp only [beq_iff_eq]
      rw [this]
      simp
      omega
end Go.Proofs.Ythbcapjccfkldaa
