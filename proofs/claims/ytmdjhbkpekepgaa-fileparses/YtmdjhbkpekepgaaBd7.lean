/- Texts shared by the claims of this seat, in one. -/
import Derived.Test.YtmdjhbkpekepgaaBd6
import Derived.Test.YtmdjhbkpekepgaaBd4
import Derived.Test.YtmdjhbkpekepgaaBd1
import Derived.Test.YtmdjhbkpekepgaaRows
import Derived.ProofKit
import Derived.OpenShut
import Derived.ShutString
import Derived.ChangeOld
import Derived.JoinedCond
import Derived.Deep.Slices
import Derived.Deep.SlicePairs
import Derived.Deep.Fields
import Derived.ChangeSame
import Derived.SizedLaws
/- file's reader: file: its contract. -/
namespace Go.Proofs.Ytmdjhbkpekepgaa
open Go.RowKit
set_option linter.unusedVariables false
set_option linter.unusedSimpArgs false
set_option maxRecDepth 100000

theorem setCells_in {b : Nat} {t : TypeId} {post : List Value} : ∀ (vs xs pre : List Value) (w : World), vs.length = xs.length → Blk w b (pre ++ (xs ++ post)) t → Blk (w.setCells b pre.length vs) b (pre ++ (vs ++ post)) t ∧ w.grownBy (w.setCells b pre.length vs) (some b)
  | [], xs, pre, w, hl, h => by
    have : xs = [] := List.length_eq_zero_iff.1 hl.symm
    subst this
    exact ⟨h, World.grownBy.refl w _⟩
  | v :: vs, [], pre, w, hl, h => by simp at hl
  | v :: vs, x :: xs, pre, w, hl, h => by
    have h1 := h.set pre.length v
    have e1 : (pre ++ (x :: xs ++ post)).set pre.length v = (pre ++ [v]) ++ (xs ++ post) := by simp [List.set_append]
    rw [e1] at h1
    obtain ⟨h2, h3⟩ := setCells_in vs xs (pre ++ [v]) _ (by simpa using hl) h1
    have e2 : (pre ++ [v]).length = pre.length + 1 := by simp
    rw [e2] at h2 h3
    refine ⟨by simpa [World.setCells] using h2, ?_⟩
    exact (grown_setCell w b pre.length v).trans h3
/-- A value into the middle of a block that is known. -/
theorem wpList_store_in {P : Program} {ops : Array Oper} {rest : List Oper} {o : Oper} {a : Act} {Q : Exit → Act → World → Prop} (w : World) (hgd : o.guard = none) (t : TypeId) (x y : Operand) (ho : o.op = .store t x y) (b n : Nat) (pre xs post ys : List Value) (e : TypeId) (hn : pre.length = n) (hB : Blk w b (pre ++ (xs ++ post)) e)
    (hx : a.eval x = .pointer (some ⟨b, n, none⟩)) (hy : a.eval y = .agg ys.toArray) (hi : (P.info? t).map (·.size) = some ys.length) (hl : ys.length = xs.length) (h1 : ∀ u ∈ ys, u.oneCell' = true)
    (h : ∀ w', Blk w' b (pre ++ (ys ++ post)) e → w.grownBy w' (some b) → wpList P ops Q rest (a.put o.dst undef) w') : wpList P ops Q (o :: rest) a w := by
  subst hn
  obtain ⟨h2, h3⟩ := setCells_in ys xs pre w hl hB
  refine wpList_store_mid hgd t x y ho b pre.length ys.toArray hx hy (fun j hj => ⟨?_, hB.frozen _⟩) (by simpa using hi) (all_oneCell_toArray h1) (h _ h2 h3)
  obtain ⟨u, hu⟩ := some_at (xs := xs) (j := j) (by simp at hj; omega)
  have hk : (pre ++ (xs ++ post))[pre.length + j]? = some u := by
    rw [List.getElem?_append_right (by omega), Nat.add_sub_cancel_left, List.getElem?_append_left (List.getElem?_eq_some_iff.1 hu).1]; exact hu
  rw [hB.cell hk]; rfl
def partQ (l : List Int) (j : Nat) : List Int := l.take j ++ List.replicate (64 - j) 0
theorem partQ_0 (l : List Int) : partQ l 0 = List.replicate 64 0 := by simp [partQ]
theorem partQ_64 {l : List Int} (h : l.length = 64) : partQ l 64 = l := by unfold partQ; rw [List.take_of_length_le (by omega)]; simp
theorem partQ_next {l : List Int} {j : Nat} {x : Int} (h : l[j]? = some x) (hl : l.length = 64) : (partQ l j).set j x = partQ l (j + 1) := by
  have hj := (List.getElem?_eq_some_iff.1 h).1
  unfold partQ
  rw [take_snoc h, show 64 - j = (64 - (j + 1)) + 1 by omega, List.replicate_succ, List.set_append_right _ _ (by rw [List.length_take]; omega), List.length_take, show j - min j l.length = 0 by omega, List.set_cons_zero, List.append_assoc]; rfl
theorem partQ_at {l : List Int} {j : Nat} (hl : l.length = 64) (hj : j < 64) : (partQ l j)[j]? = some 0 := by
  unfold partQ
  rw [List.getElem?_append_right (by rw [List.length_take]; omega), List.length_take, show j - min j l.length = 0 by omega, List.getElem?_replicate, if_pos (by omega)]
theorem RdAt.kept' {w w' : World} {R G b : Nat} {r : List Int} {s : Bool} (h : RdAt w R G r s) (hg : w.grownBy w' (some b)) (hb : R < b) : RdAt w' R G r s := h.kept hg hb
theorem number_at (R G k : Nat) (r : List Int) (s : Bool) (w : World) (h : RdAt w R G (r.drop k) (s || decide (r.length < k))) :
    Calls Try.prog 41 #[.pointer (some ⟨R, 0, none⟩), .int .i64 1] w fun e w' => e = .returned (.int .i64 (r.getD k 0)) ∧ RdAt w' R G (r.drop (k + 1)) (s || decide (r.length < k + 1)) ∧ w.grownBy w' (some R) := by
  refine (number_any R G 1 (r.drop k) (s || decide (r.length < k)) w h (by omega)).mono ?_
  rintro e w' ⟨rfl, h2, h3⟩
  rw [numL_one, drop_getD, Nat.add_zero]
  rw [List.drop_drop, short_next _ _ (by omega)] at h2
  exact ⟨rfl, h2, h3⟩
/-- The world when a file's cells are laid. -/
def startF (w : World) : World := (w.alloc (.cells noCells.toArray 32)).alloc (.cells noCells.toArray 32)
theorem startF_is (w : World) : Below w.heap.size w (startF w) ∧ Blk (startF w) w.heap.size noCells 32 ∧ Blk (startF w) (w.heap.size + 1) noCells 32 ∧ (startF w).heap.size = w.heap.size + 2 := by
  have hz1 : (w.alloc (.cells noCells.toArray 32)).heap.size = w.heap.size + 1 := by simp
  have hb1 := below1 w (.cells noCells.toArray 32)
  have hb2 := below1 (w.alloc (.cells noCells.toArray 32)) (.cells noCells.toArray 32)
  have H2 := Blk.new (w.alloc (.cells noCells.toArray 32)) noCells 32
  rw [hz1] at H2
  exact ⟨hb1.trans (hb2.mono (by omega)), (Blk.new w noCells 32).below hb2 (by omega), H2, by unfold startF; simp⟩
def zQ : List Value := ints .i64 (List.replicate 64 0)
theorem run_zero_blk (u : World) : Sem.run Try.prog (zeroValue 23) u = .ok (.agg zQ.toArray) u := by kernel_rfl
theorem fc_q (f : FileL) (A : Option Addr) (c : Nat) (A2 : Option Addr) (c2 : Nat) (A3 : Option Addr) (c3 : Nat) : fileCells f A c A2 c2 A3 c3 = [.int .i64 f.wide, .int .i64 f.high, .int .i64 f.parts] ++ (ints .i64 f.q ++ (tabsCells f.cs A f.syms.length c f.cs2 A2 f.syms2.length c2 ++ [.int .i64 f.every, .slice A3 f.data.length c3])) := rfl
theorem fc_t1 (f : FileL) (A : Option Addr) (c : Nat) (A2 : Option Addr) (c2 : Nat) (A3 : Option Addr) (c3 : Nat) : fileCells f A c A2 c2 A3 c3 = ([.int .i64 f.wide, .int .i64 f.high, .int .i64 f.parts] ++ ints .i64 f.q) ++ (tabCells f.cs A f.syms.length c ++ (tabCells f.cs2 A2 f.syms2.length c2 ++ [.int .i64 f.every, .slice A3 f.data.length c3])) := by
  unfold fileCells tabsCells; simp only [List.append_assoc]
theorem fc_t2 (f : FileL) (A : Option Addr) (c : Nat) (A2 : Option Addr) (c2 : Nat) (A3 : Option Addr) (c3 : Nat) : fileCells f A c A2 c2 A3 c3 = ([.int .i64 f.wide, .int .i64 f.high, .int .i64 f.parts] ++ ints .i64 f.q ++ tabCells f.cs A f.syms.length c) ++ (tabCells f.cs2 A2 f.syms2.length c2 ++ [.int .i64 f.every, .slice A3 f.data.length c3]) := by
  unfold fileCells tabsCells; simp only [List.append_assoc]
/-- The first four numbers' file. -/
def f4 (a0 a1 a2 a3 : Int) : FileL := { noF with wide := a0, high := a1, parts := a2, every := a3 }
theorem set_f4 (a0 a1 a2 a3 : Int) : ((((fileCells noF none 0 none 0 none 0).set 0 (.int .i64 a0)).set 1 (.int .i64 a1)).set 2 (.int .i64 a2)).set 101 (.int .i64 a3) = fileCells (f4 a0 a1 a2 a3) none 0 none 0 none 0 := by rfl
theorem f4_q (a0 a1 a2 a3 : Int) : (ints .i64 (f4 a0 a1 a2 a3).q).length = 64 := by rfl
/-- What file hands back. -/
def FlRes (R G : Nat) (r : List Int) (s : Bool) (w : World) (e : Ending) (w' : World) : Prop := ∃ A1 c1 A2 c2 A3 c3, e = .returned (fileV (fileR r) A1 c1 A2 c2 A3 c3) ∧
  Owns w.heap.size [byteRow (.slice A3 (fileR r).data.length c3) (fileR r).data, intRow 3 .i64 (.slice A2 (fileR r).syms2.length c2) (fileR r).syms2, intRow 3 .i64 (.slice A1 (fileR r).syms.length c1) (fileR r).syms] w' ∧ RdAt w' R G [] (fshortR s r) ∧ w.grownBy w' (some R)
set_option maxRecDepth 100000 in
set_option maxHeartbeats 2000000 in
theorem file_any (R G : Nat) (r : List Int) (s : Bool) (w : World) (h : RdAt w R G r s) :
    Calls Try.prog 30 #[.pointer (some ⟨R, 0, none⟩)] w (FlRes R G r s w) := by
  have hzv := run_zero_file
  have hzb := run_zero_blk
  have hby := h.bytes
  have hRw := h.lt
  have hlow := h.low
  have hlenr := h.len
  obtain ⟨hb0, HB0, HB1, hz0⟩ := startF_is w
  obtain ⟨W0, hW0⟩ : ∃ W0, W0 = startF w := ⟨_, rfl⟩
  rw [← hW0] at hb0 HB0 HB1 hz0
  unfold startF at hW0
  have HW0 := veil hW0
  have hR0 := h.below hb0 hRw
  obtain ⟨F, hF⟩ : ∃ F, F = w.heap.size + 1 := ⟨_, rfl⟩
  have hFR : R < F := by omega
  rw [← hF] at HB1
  have HR0 : Hid (RdAt W0 R G (r.drop 0) (s || decide (r.length < 0))) := by show RdAt _ _ _ _ _; simpa using hR0
  have HG0 : Hid (w.grownBy W0 (some R)) := grown_of_below hb0
  have HB0' := veil HB0
  have HX0 : Hid (Blk W0 F (fileCells noF none 0 none 0 none 0) 32) := HB1
  obtain ⟨a0, ha0⟩ : ∃ a, a = r.getD 0 0 := ⟨_, rfl⟩
  obtain ⟨a1, ha1⟩ : ∃ a, a = r.getD 1 0 := ⟨_, rfl⟩
  obtain ⟨a2, ha2⟩ : ∃ a, a = r.getD 2 0 := ⟨_, rfl⟩
  obtain ⟨a3, ha3⟩ : ∃ a, a = r.getD 3 0 := ⟨_, rfl⟩
  have Ha0 := veil ha0; have Ha1 := veil ha1; have Ha2 := veil ha2; have Ha3 := veil ha3
  clear ha0 ha1 ha2 ha3
  have HC0 := veil (number_at R G 0 r s W0 HR0.out)
  rw [← Ha0.out] at HC0
  clear hW0 hR0 HB1 HB0 hb0 h
  go_enter Try.func30, Try.ntmps30
  go_upto_region 2 with fail
  rw [← HW0.out, ← hF]
  have hFw : w.heap.size < F := by omega
  have hF0 : F < W0.heap.size := by omega
  clear HW0 hF hz0
  go_wp2_with fail
  refine HC0.out.mono ?_
  rintro e w1 ⟨rfl, hR1, hg1⟩
  have HC1 := veil (number_at R G 1 r s w1 hR1)
  rw [← Ha1.out] at HC1
  have HG1 := veil (HG0.out.trans hg1)
  have HB1 := veil (HB0'.out.kept hg1 (by simp; omega))
  have HX1 := veil (HX0.out.kept hg1 (by simp; omega))
  have hz1 := hg1.size
  clear HC0 HG0 HB0' HX0 hR1 hg1
  go_wp2_with fail
  refine HC1.out.mono ?_
  rintro e w2 ⟨rfl, hR2, hg2⟩
  have HC2 := veil (number_at R G 2 r s w2 hR2)
  rw [← Ha2.out] at HC2
  have HG2 := veil (HG1.out.trans hg2)
  have HB2 := veil (HB1.out.kept hg2 (by simp; omega))
  have HX2 := veil (HX1.out.kept hg2 (by simp; omega))
  have hz2 := hg2.size
  clear HC1 HG1 HB1 HX1 hR2 hg2
  go_wp2_with fail
  refine HC2.out.mono ?_
  rintro e w3 ⟨rfl, hR3, hg3⟩
  have HC3 := veil (number_at R G 3 r s w3 hR3)
  rw [← Ha3.out] at HC3
  have HG3 := veil (HG2.out.trans hg3)
  have HB3 := veil (HB2.out.kept hg3 (by simp; omega))
  have HX3 := veil (HX2.out.kept hg3 (by simp; omega))
  have hz3 := hg3.size
  clear HC2 HG2 HB2 HX2 hR3 hg3
  go_wp2_with fail
  refine HC3.out.mono ?_
  rintro e w4 ⟨rfl, hR4, hg4⟩
  have HG4 := veil (HG3.out.trans hg4)
  have HB4 := veil (HB3.out.kept hg4 (by simp; omega))
  have HX4 := veil (HX3.out.kept hg4 (by simp; omega))
  have HR4 := veil hR4
  have hz4 := hg4.size
  have k0 := HX4.out.cell (i := 0) (v := .int .i64 0) rfl
  have k1 := HX4.out.cell (i := 1) (v := .int .i64 0) rfl
  have k2 := HX4.out.cell (i := 2) (v := .int .i64 0) rfl
  have k3 := HX4.out.cell (i := 101) (v := .int .i64 0) rfl
  have f0 := HX4.out.frozen 0
  have f1 := HX4.out.frozen 1
  have f2 := HX4.out.frozen 2
  have f3 := HX4.out.frozen 101
  clear HC3 HG3 HB3 HX3 hR4 hg4
  go_upto_region 4 with fail
  obtain ⟨Wf, hWf⟩ : ∃ Wf, Wf = (((w4.setCell ⟨F, 0, none⟩ (.int .i64 a0)).setCell ⟨F, 1, none⟩ (.int .i64 a1)).setCell ⟨F, 2, none⟩ (.int .i64 a2)).setCell ⟨F, 101, none⟩ (.int .i64 a3) := ⟨_, rfl⟩
  rw [← hWf]
  have hgf : w4.grownBy Wf (some F) := by
    rw [hWf]; exact (((grown_setCell w4 F 0 (.int .i64 a0)).trans (grown_setCell _ F 1 (.int .i64 a1))).trans (grown_setCell _ F 2 (.int .i64 a2))).trans (grown_setCell _ F 101 (.int .i64 a3))
  have hzf : Wf.heap.size = w4.heap.size := by rw [hWf]; simp [World.setCell]
  have hXf : Blk Wf F (fileCells (f4 a0 a1 a2 a3) none 0 none 0 none 0) 32 := by
    rw [hWf, ← set_f4]; exact (((HX4.out.set 0 (.int .i64 a0)).set 1 (.int .i64 a1)).set 2 (.int .i64 a2)).set 101 (.int .i64 a3)
  have hGf : w.grownBy Wf (some R) := ⟨hgf.os.trans HG4.out.os, hgf.tape.trans HG4.out.tape, hgf.output.trans HG4.out.output, Nat.le_trans HG4.out.size hgf.size, fun q hq hne => (hgf.block q (by have := HG4.out.size; omega) (fun e => by injection e with e; omega)).trans (HG4.out.block q hq hne)⟩
  have hBf := HB4.out.kept hgf (by simp; omega)
  have hRf := HR4.out.kept hgf hFR
  have hwf := HG4.out.size
  have hb5 := below1 Wf (.cells zQ.toArray 23)
  have hz5 : (Wf.alloc (.cells zQ.toArray 23)).heap.size = w4.heap.size + 1 := by simp [hzf]
  have HQ5 := Blk.new Wf zQ 23
  rw [hzf] at HQ5
  obtain ⟨W5, hW5⟩ : ∃ W5, W5 = Wf.alloc (.cells zQ.toArray 23) := ⟨_, rfl⟩
  rw [← hW5] at hb5 hz5 HQ5 ⊢
  have hwfz : w.heap.size ≤ Wf.heap.size := hGf.size
  have HX5 := veil (hXf.below hb5 (by omega))
  have HB5 := veil (hBf.below hb5 (by omega))
  have HR5 : Hid (RdAt W5 R G (r.drop (4 + 0)) (s || decide (r.length < 4 + 0))) := veil (hRf.below hb5 (by omega))
  have HG5 := veil (grown_below hGf hb5 hwfz)
  obtain ⟨Q, hQ⟩ : ∃ Q, Q = w4.heap.size := ⟨_, rfl⟩
  rw [← hQ] at HQ5 ⊢
  have hFQ : F < Q := by omega
  have hwQ : w.heap.size ≤ Q := by omega
  have HQ5' : Hid (Blk W5 Q (ints .i64 (partQ (qR r) 0)) 23) := by show Blk _ _ _ _; rw [partQ_0]; exact HQ5
  have Hql := veil (qR_length r)
  clear hW5 hWf hgf hzf hXf hGf hBf hRf hb5 hz5 HQ5 hQ HX4 HB4 HR4 HG4 k0 k1 k2 k3 f0 f1 f2 f3 hwfz hwf hz4 hz3 hz2 hz1 HR0
  go_wp2_with fail
  go_loopg [5, 18] 64 (fun gk kv iv wr => ∃ k : Nat, gk = 64 - k ∧ k ≤ 64 ∧ iv = .int .i64 (k : Int) ∧ Hid (Blk wr Q (ints .i64 (partQ (qR r) k)) 23) ∧ Hid (Blk wr F (fileCells (f4 a0 a1 a2 a3) none 0 none 0 none 0) 32) ∧ Hid (Blk wr w.heap.size noCells 32) ∧ Hid (RdAt wr R G (r.drop (4 + k)) (s || decide (r.length < 4 + k))) ∧ Hid (w.grownBy wr (some R)))
  case atStart => exact ⟨0, rfl, by omega, rfl, HQ5', HX5, HB5, HR5, HG5⟩
  case round =>
    clear HQ5' HX5 HB5 HR5 HG5
    obtain ⟨k, rfl, hk, rfl, HQ, HX, HB, HR, HG⟩ := hrel
    by_cases hlt : k < 64
    · have hltz : (k : Int) < 64 := by omega
      obtain ⟨x, hx⟩ : ∃ x, x = r.getD (4 + k) 0 := ⟨_, rfl⟩
      have hxk : (qR r)[k]? = some x := by rw [hx]; unfold qR; rw [List.getElem?_map, List.getElem?_range hlt]; rfl
      have HN := veil (number_at R G (4 + k) r s wr HR.out)
      rw [← hx] at HN
      have Hxk := veil hxk
      have hQl := HQ.out.lt
      clear hx hxk
      go_wp2_with fail
      refine HN.out.mono ?_
      rintro e w6 ⟨rfl, hR6, hg6⟩
      have hz6 := hg6.size
      have hX6 := HX.out.kept hg6 (by simp; omega)
      have hB6 := HB.out.kept hg6 (by simp; omega)
      have hQ6 := HQ.out.kept hg6 (by simp; omega)
      have k5 := hQ6.cell (i := k) (v := .int .i64 0) (ints_at (partQ_at Hql.out hlt))
      have f5 := hQ6.frozen k
      have hset := hQ6.set k (.int .i64 x)
      rw [ints_setF, partQ_next Hxk.out Hql.out] at hset
      have hg7 := grown_setCell w6 Q k (.int .i64 x)
      have HQ7 := veil hset
      have HX7 := veil (hX6.kept hg7 (by simp; omega))
      have HB7 := veil (hB6.kept hg7 (by simp; omega))
      have HR7 := veil (hR6.kept hg7 (by omega))
      have HG7 := veil (grown_set (k := k) (v := .int .i64 x) (HG.out.trans hg6) hwQ)
      clear HN HQ HX HB HR HG hX6 hB6 hQ6 hset hg7 hg6 hR6 Hxk
      go_wp2_with fail
      go_roundg (64 - (k + 1))
      case rel => exact ⟨k + 1, rfl, by omega, by go_num, HQ7, HX7, HB7, HR7, HG7⟩
      case measure => omega
    · obtain rfl : k = 64 := by omega
      have hQr := HQ.out
      rw [partQ_64 Hql.out] at hQr
      have hQv := hQr.range
      have HRr := veil HR.out
      have Hqv : Hid ((ints .i64 (qR r)).length = 64) := by show _ = _; rw [ints_length, Hql.out]
      have HFr := veil (from_any (qR r) wr Hql.out)
      unfold blkV at HFr
      obtain ⟨xs, hxs⟩ : ∃ xs, xs = ints .i64 (qR r) := ⟨_, rfl⟩
      rw [← hxs] at hQv Hqv HFr
      have hQl := HQ.out.lt
      clear hxs HQ hQr hlt HR
      go_wp2_with (first
        | (refine wpList_load_mid rfl 23 (.tmp 4) rfl Q 0 rfl xs _ hQv Try.underlying23 rfl (info_blkn Hqv.out) ?_)
        | fail)
      refine HFr.out.mono ?_
      rintro e w6 ⟨rfl, hb6⟩
      have hz6 := hb6.size
      have hGz := HG.out.size
      have Hyv : Hid ((ints .i64 (fromL (qR r))).length = 64) := by show _ = _; rw [ints_length]; exact fromK_length _ _
      have hyo := ints_one (k := .i64) (l := fromL (qR r))
      have hX6 := HX.out.below hb6 (by omega)
      rw [fc_q] at hX6
      have HB6 := veil (HB.out.below hb6 (by omega))
      have HR6 := veil (HRr.out.below hb6 (by omega))
      have HG6 := veil (grown_below HG.out hb6 hGz)
      have hql := f4_q a0 a1 a2 a3
      obtain ⟨f1, hf1⟩ : ∃ f1 : FileL, f1 = { f4 a0 a1 a2 a3 with q := fromL (qR r) } := ⟨_, rfl⟩
      have Hmk : Hid (∀ W, Blk W F ([.int .i64 (f4 a0 a1 a2 a3).wide, .int .i64 (f4 a0 a1 a2 a3).high, .int .i64 (f4 a0 a1 a2 a3).parts] ++ (ints .i64 (fromL (qR r)) ++ (tabsCells (f4 a0 a1 a2 a3).cs none (f4 a0 a1 a2 a3).syms.length 0 (f4 a0 a1 a2 a3).cs2 none (f4 a0 a1 a2 a3).syms2.length 0 ++ [.int .i64 (f4 a0 a1 a2 a3).every, .slice none (f4 a0 a1 a2 a3).data.length 0]))) 32 → Blk W F (fileCells f1 none 0 none 0 none 0) 32) := by
        show ∀ _, _ → _
        intro W h; rw [hf1, fc_q]; exact h
      have Hf1 : Hid (f1 = { f4 a0 a1 a2 a3 with q := fromL (qR r) }) := hf1
      obtain ⟨ys, hys⟩ : ∃ ys, ys = ints .i64 (fromL (qR r)) := ⟨_, rfl⟩
      rw [← hys] at Hyv hyo Hmk ⊢
      obtain ⟨pre, hpre⟩ : ∃ pre : List Value, pre = [.int .i64 (f4 a0 a1 a2 a3).wide, .int .i64 (f4 a0 a1 a2 a3).high, .int .i64 (f4 a0 a1 a2 a3).parts] := ⟨_, rfl⟩
      have hpl : pre.length = 3 := by rw [hpre]; rfl
      rw [← hpre] at hX6 Hmk
      obtain ⟨post, hpost⟩ : ∃ post : List Value, post = tabsCells (f4 a0 a1 a2 a3).cs none (f4 a0 a1 a2 a3).syms.length 0 (f4 a0 a1 a2 a3).cs2 none (f4 a0 a1 a2 a3).syms2.length 0 ++ [.int .i64 (f4 a0 a1 a2 a3).every, .slice none (f4 a0 a1 a2 a3).data.length 0] := ⟨_, rfl⟩
      rw [← hpost] at hX6 Hmk
      obtain ⟨xq, hxq⟩ : ∃ xq, xq = ints .i64 (f4 a0 a1 a2 a3).q := ⟨_, rfl⟩
      rw [← hxq] at hX6 hql
      clear hys hpre hpost hxq hf1 hb6 HX HB HRr HG hQv HFr
      go_wp2_with (first
        | (refine wpList_store_in w6 rfl 23 (.tmp 28) (.tmp 27) rfl F 3 pre xq post ys 32 hpl hX6 rfl rfl (info_blkn Hyv.out) (by rw [Hyv.out, hql]) hyo ?_; intro w7 HX7 hg7)
        | fail)
      have hz7 := hg7.size
      have hX7 := Hmk.out _ HX7
      have HX7' := veil hX7
      have HB7 := veil (HB6.out.kept hg7 (by simp; omega))
      have hR7 := HR6.out.kept hg7 hFR
      rw [show 4 + 64 = 68 from rfl] at hR7
      have HR7 := veil hR7
      have HG7 : Hid (w.grownBy w7 (some R)) := ⟨hg7.os.trans HG6.out.os, hg7.tape.trans HG6.out.tape, hg7.output.trans HG6.out.output, Nat.le_trans HG6.out.size hg7.size, fun q hq hne => (hg7.block q (by omega) (fun e => by injection e with e; omega)).trans (HG6.out.block q hq hne)⟩
      clear HX7 hX7 hR7 hX6 hg7 HB6 HR6 HG6 Hmk hyo hpl hql
      obtain ⟨B, hB⟩ : ∃ B, B = w7.heap.size := ⟨_, rfl⟩
      have hFB : F < B := by omega
      have hwB : w.heap.size < B := by omega
      obtain ⟨r1, hr1⟩ : ∃ r1, r1 = r.drop 68 := ⟨_, rfl⟩
      obtain ⟨s1, hs1⟩ : ∃ s1, s1 = (s || decide (r.length < 68)) := ⟨_, rfl⟩
      rw [← hr1, ← hs1] at HR7
      have Hr1 := veil hr1; have Hs1 := veil hs1
      have HT1 := veil (table_any R G r1 s1 w7 HR7.out)
      clear hr1 hs1 HR7
      go_wp2_with fail
      refine HT1.out.mono ?_
      rintro e w8 ⟨A1, c1, rfl, hO8, hR8, hg8⟩
      rw [← hB] at hO8
      have hz8 := hg8.size
      have hX8 := HX7'.out.kept hg8 (by simp; omega)
      rw [fc_t1] at hX8
      have HB8 := veil (HB7.out.kept hg8 (by simp; omega))
      have HG8 := veil (HG7.out.trans hg8)
      have HO8 := veil hO8
      have HR8 := veil hR8
      have hx17 := tabCells_length (A := none) (n := f1.syms.length) (c := 0) (show f1.cs.length = 16 by rw [Hf1.out]; rfl)
      have Hy17 : Hid ((tabCells (cntR r1) A1 (symR r1).length c1).length = 17) := tabCells_length (cntR_length r1)
      have hyo := tabCells_one (cs := cntR r1) (A := A1) (n := (symR r1).length) (c := c1)
      have hpl : ([.int .i64 f1.wide, .int .i64 f1.high, .int .i64 f1.parts] ++ ints .i64 f1.q : List Value).length = 67 := by
        rw [List.length_append, ints_length, Hf1.out]; show 3 + (fromK (qR r) 64).length = 67; rw [fromK_length]
      obtain ⟨f2, hf2⟩ : ∃ f2 : FileL, f2 = { f1 with cs := cntR r1, syms := symR r1 } := ⟨_, rfl⟩
      have Hf2 := veil hf2
      have Hmk : Hid (∀ W, Blk W F (([.int .i64 f1.wide, .int .i64 f1.high, .int .i64 f1.parts] ++ ints .i64 f1.q) ++ (tabCells (cntR r1) A1 (symR r1).length c1 ++ (tabCells f1.cs2 none f1.syms2.length 0 ++ [.int .i64 f1.every, .slice none f1.data.length 0]))) 32 → Blk W F (fileCells f2 A1 c1 none 0 none 0) 32) := by
        show ∀ _, _ → _
        intro W h; rw [hf2, fc_t1]; exact h
      unfold tabV
      obtain ⟨ys, hys⟩ : ∃ ys, ys = tabCells (cntR r1) A1 (symR r1).length c1 := ⟨_, rfl⟩
      rw [← hys] at Hy17 hyo Hmk ⊢
      obtain ⟨pre, hpre⟩ : ∃ pre : List Value, pre = [.int .i64 f1.wide, .int .i64 f1.high, .int .i64 f1.parts] ++ ints .i64 f1.q := ⟨_, rfl⟩
      rw [← hpre] at hX8 Hmk hpl
      obtain ⟨post, hpost⟩ : ∃ post : List Value, post = tabCells f1.cs2 none f1.syms2.length 0 ++ [.int .i64 f1.every, .slice none f1.data.length 0] := ⟨_, rfl⟩
      rw [← hpost] at hX8 Hmk
      obtain ⟨xt, hxt⟩ : ∃ xt, xt = tabCells f1.cs none f1.syms.length 0 := ⟨_, rfl⟩
      rw [← hxt] at hX8 hx17
      clear hys hpre hpost hxt hf2 hO8 hR8 HT1 HX7' HB7 HG7 hg8
      go_wp2_with (first
        | (refine wpList_store_in w8 rfl 27 (.tmp 32) (.tmp 30) rfl F 67 pre xt post ys 32 hpl hX8 rfl rfl (by rw [Hy17.out]; exact info_tab) (by rw [Hy17.out, hx17]) hyo ?_; intro w9 HX9 hg9)
        | fail)
      have hz9 := hg9.size
      have HX9' := veil (Hmk.out _ HX9)
      have HB9 := veil (HB8.out.kept hg9 (by simp; omega))
      have HR9 := HR8.out.kept hg9 hFR
      have HO9 := veil (HO8.out.kept hg9 hFB)
      have HG9 : Hid (w.grownBy w9 (some R)) := ⟨hg9.os.trans HG8.out.os, hg9.tape.trans HG8.out.tape, hg9.output.trans HG8.out.output, Nat.le_trans HG8.out.size hg9.size, fun q hq hne => (hg9.block q (by omega) (fun e => by injection e with e; omega)).trans (HG8.out.block q hq hne)⟩
      obtain ⟨r2, hr2⟩ : ∃ r2, r2 = restR r1 := ⟨_, rfl⟩
      obtain ⟨s2, hs2⟩ : ∃ s2, s2 = (s1 || shortR r1) := ⟨_, rfl⟩
      rw [← hr2, ← hs2] at HR9
      have Hr2 := veil hr2; have Hs2 := veil hs2
      have HT2 := veil (table_any R G r2 s2 w9 HR9)
      clear hr2 hs2 HR9 HX9 hX8 hg9 HB8 HR8 HO8 HG8 Hmk hyo hpl hx17 Hy17
      go_wp2_with fail
      refine HT2.out.mono ?_
      rintro e w10 ⟨A2, c2, rfl, hO10, hR10, hg10⟩
      have hz10 := hg10.size
      have hX10 := HX9'.out.kept hg10 (by simp; omega)
      rw [fc_t2] at hX10
      have HB10 := veil (HB9.out.kept hg10 (by simp; omega))
      have HG10 := veil (HG9.out.trans hg10)
      have HO10 := veil (HO9.out.callG hg10 (by omega) hO10)
      have HR10 := veil hR10
      have hx17 := tabCells_length (A := none) (n := f2.syms2.length) (c := 0) (show f2.cs2.length = 16 by rw [Hf2.out, Hf1.out]; rfl)
      have Hy17 : Hid ((tabCells (cntR r2) A2 (symR r2).length c2).length = 17) := tabCells_length (cntR_length r2)
      have hyo := tabCells_one (cs := cntR r2) (A := A2) (n := (symR r2).length) (c := c2)
      have hpl : ([.int .i64 f2.wide, .int .i64 f2.high, .int .i64 f2.parts] ++ ints .i64 f2.q ++ tabCells f2.cs A1 f2.syms.length c1 : List Value).length = 84 := by
        rw [List.length_append, List.length_append, ints_length, tabCells_length (by rw [Hf2.out]; exact cntR_length _), Hf2.out, Hf1.out]; show 3 + (fromK (qR r) 64).length + 17 = 84; rw [fromK_length]
      obtain ⟨f3, hf3⟩ : ∃ f3 : FileL, f3 = { f2 with cs2 := cntR r2, syms2 := symR r2 } := ⟨_, rfl⟩
      have Hf3 := veil hf3
      have Hmk : Hid (∀ W, Blk W F (([.int .i64 f2.wide, .int .i64 f2.high, .int .i64 f2.parts] ++ ints .i64 f2.q ++ tabCells f2.cs A1 f2.syms.length c1) ++ (tabCells (cntR r2) A2 (symR r2).length c2 ++ [.int .i64 f2.every, .slice none f2.data.length 0])) 32 → Blk W F (fileCells f3 A1 c1 A2 c2 none 0) 32) := by
        show ∀ _, _ → _
        intro W h; rw [hf3, fc_t2]; exact h
      unfold tabV
      obtain ⟨ys2, hys2⟩ : ∃ ys, ys = tabCells (cntR r2) A2 (symR r2).length c2 := ⟨_, rfl⟩
      rw [← hys2] at Hy17 hyo Hmk ⊢
      obtain ⟨pre2, hpre2⟩ : ∃ pre : List Value, pre = [.int .i64 f2.wide, .int .i64 f2.high, .int .i64 f2.parts] ++ ints .i64 f2.q ++ tabCells f2.cs A1 f2.syms.length c1 := ⟨_, rfl⟩
      rw [← hpre2] at hX10 Hmk hpl
      obtain ⟨post2, hpost2⟩ : ∃ post : List Value, post = [.int .i64 f2.every, .slice none f2.data.length 0] := ⟨_, rfl⟩
      rw [← hpost2] at hX10 Hmk
      obtain ⟨xt2, hxt2⟩ : ∃ xt, xt = tabCells f2.cs2 none f2.syms2.length 0 := ⟨_, rfl⟩
      rw [← hxt2] at hX10 hx17
      clear hys2 hpre2 hpost2 hxt2 hf3 hO10 hR10 HT2 HX9' HB9 HG9 HO9 hg10
      go_wp2_with (first
        | (refine wpList_store_in w10 rfl 27 (.tmp 36) (.tmp 34) rfl F 84 pre2 xt2 post2 ys2 32 hpl hX10 rfl rfl (by rw [Hy17.out]; exact info_tab) (by rw [Hy17.out, hx17]) hyo ?_; intro w11 HX11 hg11; obtain ⟨Ar, cr, hBr, hsr, hcr⟩ := (HR10.out.kept hg11 hFR).blk; have k0 := hBr.cell (i := 0) (v := .slice Ar (restR r2).length cr) rfl)
        | fail)
      have hz11 := hg11.size
      have HX11' := veil (Hmk.out _ HX11)
      have HB11 := veil (HB10.out.kept hg11 (by simp; omega))
      have hR11 := HR10.out.kept hg11 hFR
      have HO11 := veil (HO10.out.kept hg11 hFB)
      have HG11 : Hid (w.grownBy w11 (some R)) := ⟨hg11.os.trans HG10.out.os, hg11.tape.trans HG10.out.tape, hg11.output.trans HG10.out.output, Nat.le_trans HG10.out.size hg11.size, fun q hq hne => (hg11.block q (by omega) (fun e => by injection e with e; omega)).trans (HG10.out.block q hq hne)⟩
      obtain ⟨r3, hr3⟩ : ∃ r3, r3 = restR r2 := ⟨_, rfl⟩
      obtain ⟨s3, hs3⟩ : ∃ s3, s3 = (s2 || shortR r2) := ⟨_, rfl⟩
      rw [← hr3] at hR11 ⊢
      rw [← hs3] at hR11
      have Hr3 := veil hr3; have Hs3 := veil hs3
      have hl3 := hR11.len
      have HT3 := veil (take_any R G r3.length r3 s3 w11 hR11 (by omega))
      clear hr3 hs3 hR11 hBr hsr hcr k0 HX11 hX10 hg11 HB10 HR10 HO10 HG10 Hmk hyo hpl hx17 Hy17
      refine HT3.out.mono ?_
      rintro e w12 ⟨A9, c9, rfl, hs12, hc12, hR12, hg12⟩
      rw [List.take_of_length_le (Nat.le_refl _)] at hs12 hc12 ⊢
      rw [List.drop_length, show (s3 || decide (r3.length < r3.length)) = s3 by simp] at hR12
      have hz12 := hg12.size
      have HX12 := veil (HX11'.out.kept hg12 (by simp; omega))
      have HB12 := veil (HB11.out.kept hg12 (by simp; omega))
      have HG12 := veil (HG11.out.trans hg12)
      have HO12 := veil (HO11.out.kept hg12 (show R < B by omega))
      have HR12 := veil hR12
      have HCl := veil (clone_any A9 c9 G r3 w12 hs12 (by omega) (by omega))
      clear hs12 hc12 hR12 hg12 HX11' HB11 HG11 HO11 HT3
      go_wp2_with fail
      refine HCl.out.mono ?_
      rintro e w13 ⟨vd, rfl, hO13, hb13⟩
      obtain ⟨A3, c3, hv3, hs3', hcc3, hcm3⟩ := hO13.seen (List.mem_cons_self ..)
      obtain rfl : vd = .slice A3 r3.length c3 := hv3
      have hz13 := hb13.size
      have hX13 := HX12.out.below hb13 (by omega)
      have hform3 : f3.Form := by rw [Hf3.out, Hf2.out, Hf1.out]; exact ⟨fromK_length _ _, cntR_length _, cntR_length _⟩
      have k5 := hX13.cell (fget_data (f := f3) (a := fun i => if i = 0 then A1 else A2) (c := fun i => if i = 0 then c1 else c2) (A3 := none) (c3 := 0) hform3)
      have f5 := hX13.frozen 102
      have hset := hX13.set 102 (.slice A3 r3.length c3)
      have hfd := fset_data (f := f3) (a := fun i => if i = 0 then A1 else A2) (c := fun i => if i = 0 then c1 else c2) (A3 := none) (c3 := 0) hform3 A3 r3 c3
      have hset2 : Blk (w13.setCell ⟨F, 102, none⟩ (.slice A3 r3.length c3)) F (fileCells (fileR r) A1 c1 A2 c2 A3 c3) 32 := by
        have e : fileR r = { f3 with data := r3 } := by
          rw [Hf3.out, Hf2.out, Hf1.out]
          unfold fileR f4
          rw [Hr3.out, Hr2.out, Hr1.out, Ha0.out, Ha1.out, Ha2.out, Ha3.out]
        rw [e]
        change (fileCells f3 A1 c1 A2 c2 none 0).set 102 (.slice A3 r3.length c3) = fileCells { f3 with data := r3 } A1 c1 A2 c2 A3 c3 at hfd
        rw [← hfd]; exact hset
      have hgs := grown_setCell w13 F 102 (.slice A3 r3.length c3)
      have hO14 := ((HO12.out.call hb13 hO13).kept hgs hFB).down (Nat.le_of_lt hwB)
      have hR14 := (HR12.out.below hb13 (by omega)).kept hgs hFR
      have hB14 := (HB12.out.below hb13 (by omega)).kept hgs (by simp; omega)
      have hG13 := grown_below HG12.out hb13 (by omega)
      have hG14 := grown_set (k := 102) (v := .slice A3 r3.length c3) hG13 (show w.heap.size ≤ F by omega)
      obtain ⟨W, hW⟩ : ∃ W, W = w13.setCell ⟨F, 102, none⟩ (.slice A3 r3.length c3) := ⟨_, rfl⟩
      rw [← hW] at hset2 hO14 hR14 hB14 hG14
      have HFin : Hid (∀ w', W.grownBy w' (some w.heap.size) → FlRes R G r s w (.returned (.agg (fileCells (fileR r) A1 c1 A2 c2 A3 c3).toArray)) w') := by
        show ∀ _, _ → _
        intro w' hg
        have e1 : (fileR r).syms = symR r1 := by rw [Hr1.out]; rfl
        have e2 : (fileR r).syms2 = symR r2 := by rw [Hr2.out, Hr1.out]; rfl
        have e3 : (fileR r).data = r3 := by rw [Hr3.out, Hr2.out, Hr1.out]; rfl
        have e4 : fshortR s r = s3 := by rw [Hs3.out, Hs2.out, Hs1.out, Hr2.out, Hr1.out]; rfl
        refine ⟨A1, c1, A2, c2, A3, c3, rfl, ?_, ?_, ⟨hg.os.trans hG14.os, hg.tape.trans hG14.tape, hg.output.trans hG14.output, Nat.le_trans hG14.size hg.size, fun q hq hne => (hg.block q (by have := hG14.size; omega) (fun e => by injection e with e; omega)).trans (hG14.block q hq hne)⟩⟩
        · rw [e1, e2, e3]
          refine ⟨Nat.le_trans hO14.base hg.size, fun x hx => (hO14.each x hx).kept hg ?_, hO14.apart⟩
          have hxB : ∀ g, x.v.ownBlock = some g → B ≤ g := fun g hgx => ((((HO12.out.call hb13 hO13).kept hgs hFB).each x hx).lt g hgx).1
          cases hv : x.v.ownBlock with
          | none => exact .inl rfl
          | some g => exact .inr fun e => by injection e with e; have := hxB g hv; omega
        · rw [e4]; exact hR14.kept' hg (by omega)
      have HW := veil hW
      have Hlen : Hid ((fileCells (fileR r) A1 c1 A2 c2 A3 c3).length = 103) := fileCells_length (fileR_form r) _ _ _ _ _ _
      have hone := fileCells_one (f := fileR r) (A := A1) (c := c1) (A2 := A2) (c2 := c2) (A3 := A3) (c3 := c3)
      have hXr := hset2.range
      have Hnl : Hid (noCells.length = 103) := noCells_length
      obtain ⟨xs, hxs⟩ : ∃ xs, xs = fileCells (fileR r) A1 c1 A2 c2 A3 c3 := ⟨_, rfl⟩
      rw [← hxs] at HFin Hlen hone hXr
      obtain ⟨x0, hx0⟩ : ∃ x0, x0 = noCells := ⟨_, rfl⟩
      rw [← hx0] at hB14 Hnl
      clear hzv hzb hx0 hxs hset2 hset hfd hgs hO14 hR14 hG13 hG14 hW hO13 hb13 hX13 hs3' HX12 HB12 HG12 HO12 HR12 HCl hform3
      go_upto_region 13 with fail
      rw [← HW.out]
      go_wp2_with (first
        | (refine wpList_load_mid rfl 32 (.tmp 3) rfl F 0 rfl xs _ hXr Try.underlying32 rfl (info_file Hlen.out) ?_)
        | (refine wpList_store_blk W rfl 32 (.tmp 2) (.tmp 46) rfl w.heap.size x0 xs 32 hB14 rfl rfl (info_file Hlen.out) (by rw [Hlen.out, Hnl.out]) hone ?_; intro w15 HB15 hg15)
        | fail)
      refine bodyPost_ret (v := .agg xs.toArray) (results_cell_row rfl _ _ w.heap.size 32 xs.toArray (0, 0) _ rfl HB15 Try.underlying32 rfl (by simpa using info_file Hlen.out)) rfl (HFin.out _ hg15)
end Go.Proofs.Ytmdjhbkpekepgaa

/- file.Parse: its contract. -/
namespace Go.Proofs.Ytmdjhbkpekepgaa
open Go.RowKit
set_option linter.unusedVariables false
set_option linter.unusedSimpArgs false
set_option maxRecDepth 100000

theorem conv_any {w : World} {G : Nat} {A : Option Addr} {xs : List Int} (c : Nat) (h : Seen w G A (ints .u8 xs)) :
    (convert 30 9 (.slice A xs.length c)).run Try.prog w = .ok (.string (strOfNums xs)) w := by
  rcases A with _ | ad
  · obtain rfl : xs = [] := by
      rcases h with h | ⟨g, o, h, _⟩
      · simpa [ints] using h
      · cases h
    exact run_convert_bytes_nil w 30 5 Try.underlying30 Try.underlying5 0 c 9 Try.underlying9
  · rcases Nat.eq_zero_or_pos xs.length with h0 | h0
    · obtain rfl : xs = [] := List.length_eq_zero_iff.1 h0
      obtain ⟨b, o, e⟩ := ad
      show (convert 30 9 (.slice _ 0 c)).run Try.prog w = _
      rw [run_convert_bytes_string w 30 9 5 _ 0 c Try.underlying30 Try.underlying5 Try.underlying9]
      kernel_rfl
    · obtain ⟨g, o, x, hA, _, _, _⟩ := h.int h0
      rw [hA]
      refine run_convert_bytes_arg (P := Try.prog) w 30 5 Try.underlying30 Try.underlying5 g o xs.length c xs rfl (fun i hi => ?_) 9 Try.underlying9
      rw [hA] at h
      obtain ⟨x, hx, hc⟩ := byteAt h hi
      rw [hc, List.getD_eq_getElem?_getD, hx]; rfl
theorem magic_is {xs : List Int} (h : Bytes xs) : strOfNums xs = ⟨#[77, 90]⟩ ↔ xs = [77, 90] := by
  constructor
  · intro e
    have e2 : (strOfNums xs).data.toList = [77, 90] := by rw [e]
    rw [strOfNums_data] at e2
    have hl := congrArg List.length e2
    rw [List.length_map] at hl
    obtain ⟨a, b, rfl⟩ : ∃ a b, xs = [a, b] := by
      rcases xs with _ | ⟨a, _ | ⟨b, _ | ⟨d, l⟩⟩⟩
      · simp at hl
      · simp at hl
      · exact ⟨a, b, rfl⟩
      · simp at hl
    have ha := h a (by simp)
    have hb := h b (by simp)
    simp only [List.map_cons, List.map_nil, List.cons.injEq, and_true] at e2
    have e3 := congrArg UInt8.toNat e2.1
    have e4 := congrArg UInt8.toNat e2.2
    simp at e3 e4
    have h1 : a = 77 := by omega
    have h2 : b = 90 := by omega
    rw [h1, h2]
  · intro e; subst e; rfl
theorem fileIn_rows {bs : List Int} {A1 A2 A3 : Option Addr} {c1 c2 c3 B : Nat} {W : World} (hby : Bytes bs) (h : Owns B [byteRow (.slice A3 (readF bs).data.length c3) (readF bs).data, intRow 3 .i64 (.slice A2 (readF bs).syms2.length c2) (readF bs).syms2, intRow 3 .i64 (.slice A1 (readF bs).syms.length c1) (readF bs).syms] W) :
    FileIn (readF bs) A1 c1 A2 c2 A3 c3 W.heap.size W := by
  obtain ⟨p1, p2, p3, p4, p5⟩ := read_parts bs
  have r0 := row_in h (show intRow 3 .i64 (.slice A1 (readF bs).syms.length c1) (readF bs).syms ∈ _ from by simp)
  have r1 := row_in h (show intRow 3 .i64 (.slice A2 (readF bs).syms2.length c2) (readF bs).syms2 ∈ _ from by simp)
  have rd := row_in h (show intRow 5 .u8 (.slice A3 (readF bs).data.length c3) (readF bs).data ∈ _ from by simp [byteRow])
  have hbnd : ∀ k, ∀ x ∈ cntK bs k, -9223372036854775808 ≤ x ∧ x ≤ 9223372036854775807 := fun k x hx => by have := cntN_bnd hby 16 _ x hx; omega
  refine ⟨readF_form bs, Nat.le_trans r0.2.1 r0.2.2, r0.2.1, by rw [p3]; exact hbnd 0, r0.1, Nat.le_trans r1.2.1 r1.2.2, r1.2.1, by rw [p4]; exact hbnd 1, r1.1, ?_, Nat.le_trans rd.2.1 rd.2.2, rd.2.1, rd.1⟩
  rw [p5]; exact fun x hx => hby x (List.mem_of_mem_drop hx)
theorem parse_fine {bs : List Int} {w w' : World} {A1 A2 A3 : Option Addr} {c1 c2 c3 : Nat} (hby : Bytes bs) (he : eParse bs = 0) (h : Owns w.heap.size [byteRow (.slice A3 (readF bs).data.length c3) (readF bs).data, intRow 3 .i64 (.slice A2 (readF bs).syms2.length c2) (readF bs).syms2, intRow 3 .i64 (.slice A1 (readF bs).syms.length c1) (readF bs).syms] w') (hb : Below w.heap.size w w') :
    ParseRes bs w (.returned (.tuple #[.agg (fileCells (readF bs) A1 c1 A2 c2 A3 c3).toArray, .int .i64 0])) w' := by
  have ho : oParse bs = readF bs := by unfold oParse; rw [if_pos he]
  unfold ParseRes
  rw [ho, he]
  exact ⟨A1, c1, A2, c2, A3, c3, rfl, fileIn_rows hby h, hb, row_fresh h (show intRow 3 .i64 (.slice A1 (readF bs).syms.length c1) (readF bs).syms ∈ _ from by simp), row_fresh h (show intRow 3 .i64 (.slice A2 (readF bs).syms2.length c2) (readF bs).syms2 ∈ _ from by simp), row_fresh h (show intRow 5 .u8 (.slice A3 (readF bs).data.length c3) (readF bs).data ∈ _ from by simp [byteRow])⟩
set_option maxRecDepth 100000 in
set_option maxHeartbeats 2000000 in
theorem fileParse_any : FParseSpec := by
  intro bs A c G w hs hby hl hcap hG
  have hzv := run_zero_file
  have hb1 := below1 w (.cells noCells.toArray 32)
  have HR1 := Blk.new w noCells 32
  have hnl := info_file noCells_length
  have hz1 : (w.alloc (.cells noCells.toArray 32)).heap.size = w.heap.size + 1 := by simp
  go_enter Try.func14, Try.ntmps14
  by_cases h91 : 91000 < bs.length
  · have h91z : (91000 : Int) < (bs.length : Int) := by omega
    have he : eParse bs = 2 := if_pos h91
    go_wp2_with (first
      | (refine wpList_store_blk _ rfl 32 (.tmp 2) (.tmp 10) rfl w.heap.size noCells noCells 32 HR1 rfl rfl hnl rfl noCells_one ?_; intro w6 HB6 hg6)
      | fail)
    exact bodyPost_ret (results_row_tmp rfl _ _ w.heap.size 32 noCells.toArray (0, 0) _ (.int .i64 2) rfl rfl HB6 Try.underlying32 rfl (by simpa using hnl)) rfl (parse_bad he (by decide) (hb1.grown hg6 hb1.size (fun j hj => by injection hj with hj; omega)))
  · have h91z : ¬ (91000 : Int) < (bs.length : Int) := by omega
    obtain ⟨W0, hW0⟩ : ∃ W0, W0 = (w.alloc (.cells noCells.toArray 32)).alloc (.cells #[.slice A bs.length c, .bool false] 58) := ⟨_, rfl⟩
    have hb2 := below1 (w.alloc (.cells noCells.toArray 32)) (.cells #[.slice A bs.length c, .bool false] 58)
    have HR2 := Blk.new (w.alloc (.cells noCells.toArray 32)) [.slice A bs.length c, .bool false] 58
    have hz2 : W0.heap.size = w.heap.size + 2 := by rw [hW0]; simp
    have hbw := hb1.trans (hb2.mono (by omega))
    have HRb := HR1.below hb2 (by omega)
    rw [hz1] at HR2
    change Blk ((w.alloc (.cells noCells.toArray 32)).alloc (.cells #[.slice A bs.length c, .bool false] 58)) (w.heap.size + 1) _ _ at HR2
    rw [← hW0] at hbw HRb HR2
    obtain ⟨R, hR⟩ : ∃ R, R = w.heap.size + 1 := ⟨_, rfl⟩
    rw [← hR] at HR2
    have hrd : RdAt W0 R G bs false := ⟨by omega, hby, by omega, A, c, HR2, hs.below hbw hG, hcap⟩
    have HT := veil (take_any R G 2 bs false W0 hrd (by omega))
    have HW0 := veil hW0
    have hwR : w.heap.size < R := by omega
    have hRW : R < W0.heap.size := by omega
    have Hbw := veil hbw
    have HRb' := veil HRb
    clear hb1 HR1 hz1 hW0 hb2 HR2 hz2 hbw HRb hrd
    go_upto_region 4 with fail
    rw [← HW0.out, ← hR]
    clear HW0 hR
    go_wp2_with fail
    refine HT.out.mono ?_
    rintro e w1 ⟨A', c', rfl, hs1, hc1, hR1, hg1⟩
    have hcv := conv_any c' hs1
    have hz1 := hg1.size
    have HRb1 := veil (HRb'.out.kept hg1 (by simp; omega))
    have Hb1 := veil (Hbw.out.grown hg1 Hbw.out.size (fun j hj => by injection hj with hj; omega))
    rw [show (false || decide (bs.length < 2)) = decide (bs.length < 2) from rfl] at hR1
    have HT2 := veil (file_any R G (bs.drop 2) (decide (bs.length < 2)) w1 hR1)
    obtain ⟨str, hstr⟩ : ∃ str, str = strOfNums (bs.take 2) := ⟨_, rfl⟩
    rw [← hstr] at hcv
    have Hmag : Hid (str = ⟨#[77, 90]⟩ ↔ bs.take 2 = [77, 90]) := by show _ ↔ _; rw [hstr]; exact magic_is (hby.take' 2)
    obtain ⟨n2, hn2⟩ : ∃ n, n = (bs.take 2).length := ⟨_, rfl⟩
    rw [← hn2] at hcv ⊢
    clear hs1 hc1 hR1 hg1 HT HRb' Hbw hstr hn2
    go_wp2_with fail
    refine HT2.out.mono ?_
    rintro e w2 ⟨A1, c1, A2, c2, A3, c3, rfl, hO2, hR2, hg2⟩
    have hz2 := hg2.size
    have Hlen : Hid ((fileCells (fileR (bs.drop 2)) A1 c1 A2 c2 A3 c3).length = 103) := fileCells_length (fileR_form _) _ _ _ _ _ _
    have hone := fileCells_one (f := fileR (bs.drop 2)) (A := A1) (c := c1) (A2 := A2) (c2 := c2) (A3 := A3) (c3 := c3)
    have hb3 := below1 w2 (.cells (fileCells (fileR (bs.drop 2)) A1 c1 A2 c2 A3 c3).toArray 32)
    have hX3 := Blk.new w2 (fileCells (fileR (bs.drop 2)) A1 c1 A2 c2 A3 c3) 32
    have hO3 := (hO2.below hb3).down (show w.heap.size ≤ w1.heap.size by omega)
    have HOg : Hid (∀ x ∈ [byteRow (.slice A3 (fileR (bs.drop 2)).data.length c3) (fileR (bs.drop 2)).data, intRow 3 .i64 (.slice A2 (fileR (bs.drop 2)).syms2.length c2) (fileR (bs.drop 2)).syms2, intRow 3 .i64 (.slice A1 (fileR (bs.drop 2)).syms.length c1) (fileR (bs.drop 2)).syms], ∀ g, x.v.ownBlock = some g → w.heap.size < g) :=
      veil (fun x hx g hg => by have := ((hO2.each x hx).lt g hg).1; omega)
    have hBw3 := (Hb1.out.grown hg2 Hb1.out.size (fun j hj => by injection hj with hj; omega)).trans (hb3.mono (by omega))
    have hRb3 := (HRb1.out.kept hg2 (by simp; omega)).below hb3 (by omega)
    obtain ⟨A0, c0, hBR, _, _⟩ := (hR2.below hb3 hR2.lt).blk
    have HO3 := veil hO3; have HBw3 := veil hBw3; have HRb3 := veil hRb3; have HBR := veil hBR; have HX3 := veil hX3
    obtain ⟨xs, hxs⟩ : ∃ xs, xs = fileCells (fileR (bs.drop 2)) A1 c1 A2 c2 A3 c3 := ⟨_, rfl⟩
    unfold fileV
    rw [← hxs] at Hlen hone HO3 HBw3 HRb3 HBR HX3 ⊢
    have Hxs := veil hxs
    have hzb : (w2.alloc (.cells xs.toArray 32)).heap.size = w2.heap.size + 1 := by simp
    obtain ⟨sh, hsh⟩ : ∃ sh, sh = fshortR (decide (bs.length < 2)) (bs.drop 2) := ⟨_, rfl⟩
    rw [← hsh] at HBR
    have Hsh := veil hsh
    clear hb3 hX3 hO3 hBw3 hRb3 hBR hO2 hR2 hg2 HT2 Hb1 HRb1 hxs hsh hcv
    cases sh with
    | true =>
      have hs9 := short_of Hsh.out.symm
      have he : eParse bs = 3 := by unfold eParse; rw [if_neg h91, if_pos hs9]
      have HE := veil he
      clear hs9 he
      go_wp2_with (first
        | (refine wpList_store_new w2 rfl 32 (.tmp 6) (.tmp 15) rfl _ xs rfl rfl (info_file Hlen.out) (by rw [Hlen.out]; rfl) hone ?_; have k1 := HBR.out.cell (i := 1) (v := .bool true) rfl)
        | (refine wpList_store_blk _ rfl 32 (.tmp 2) (.tmp 18) rfl w.heap.size noCells noCells 32 HRb3.out rfl rfl hnl rfl noCells_one ?_; intro w6 HB6 hg6)
        | fail)
      exact bodyPost_ret (results_row_tmp rfl _ _ w.heap.size 32 noCells.toArray (0, 0) _ (.int .i64 3) rfl rfl HB6 Try.underlying32 rfl (by simpa using hnl)) rfl (parse_bad HE.out (by decide) (HBw3.out.grown hg6 HBw3.out.size (fun j hj => by injection hj with hj; omega)))
    | false =>
      obtain ⟨hns, hfr, h70⟩ := parts_of Hsh.out.symm
      rw [hfr] at HO3 Hxs HOg
      have HF3 := veil (fileIn_rows hby HO3.out)
      have HK := veil (fileCheck_any (readF bs) A1 c1 A2 c2 A3 c3 _ _ HF3.out (Nat.le_refl _))
      unfold fileV at HK
      rw [← Hxs.out] at HK
      have Hns := veil hns
      by_cases hm : bs.take 2 = [77, 90]
      · have hst : str = ⟨#[77, 90]⟩ := Hmag.out.2 hm
        have Hpk : Hid (packF (readF bs) = bs) := pack_read hby hns hm
        subst hst
        clear hns hfr hm Hmag
        go_wp2_with (first
          | (refine wpList_store_new w2 rfl 32 (.tmp 6) (.tmp 15) rfl _ xs rfl rfl (info_file Hlen.out) (by rw [Hlen.out]; rfl) hone ?_; have k1 := HBR.out.cell (i := 1) (v := .bool false) rfl)
          | (refine wpList_load_long rfl 32 (.tmp 6) rfl w2.heap.size 0 rfl xs _ HX3.out.range Try.underlying32 rfl (info_file Hlen.out) ?_)
          | fail)
        refine HK.out.mono ?_
        rintro e w4 ⟨rfl, hb4⟩
        have hzW : (w2.alloc (.cells xs.toArray 32)).heap.size ≤ w4.heap.size := hb4.size
        have HX4 := veil (HX3.out.below hb4 (by simp))
        have HRb4 := veil (HRb3.out.below hb4 (by simp; omega))
        have HBw4 := veil (HBw3.out.trans (hb4.mono (by simp; omega)))
        have HO4 := veil (HO3.out.below hb4)
        have HX4r := HX4.out.range
        obtain ⟨E, hE⟩ : ∃ E, E = eFile (readF bs) := ⟨_, rfl⟩
        rw [← hE]
        by_cases h0 : E = 0
        · have he := parse_good h91 Hns.out ⟨by rw [← hE]; exact h0, Hpk.out⟩
          have HE := veil he
          subst h0
          clear he hE hb4 HK HF3 HX3 HRb3 HBw3 HO3 HBR
          go_wp2_with (first
            | (refine wpList_load_mid rfl 32 (.tmp 6) rfl w2.heap.size 0 rfl xs _ HX4r Try.underlying32 rfl (info_file Hlen.out) ?_)
            | (refine wpList_store_blk _ rfl 32 (.tmp 2) (.tmp 27) rfl w.heap.size noCells xs 32 HRb4.out rfl rfl (info_file Hlen.out) (by rw [Hlen.out]; exact noCells_length.symm) hone ?_; intro w10 HB10 hg10)
            | fail)
          exact bodyPost_ret (results_row_tmp rfl _ _ w.heap.size 32 xs.toArray (0, 0) _ (.int .i64 0) rfl rfl HB10 Try.underlying32 rfl (by simpa using info_file Hlen.out)) rfl (by
            rw [Hxs.out]
            refine parse_fine hby HE.out ?_ (HBw4.out.grown hg10 HBw4.out.size (fun j hj => by injection hj with hj; omega))
            refine ⟨Nat.le_trans HO4.out.base hg10.size, fun x hx => (HO4.out.each x hx).kept hg10 ?_, HO4.out.apart⟩
            cases hv : x.v.ownBlock with
            | none => exact .inl rfl
            | some g => exact .inr fun e => by injection e with e; have := HOg.out x hx g hv; omega)
        · have he := parse_form h91 Hns.out (fun h => h0 (by rw [hE]; exact h.1))
          have HE := veil he
          have hne : (E != 0) = true := by simpa using h0
          clear he hE hb4 HK HF3 HX3 HRb3 HBw3 HO3 HBR h0
          go_wp2_with (first
            | (refine wpList_store_blk _ rfl 32 (.tmp 2) (.tmp 26) rfl w.heap.size noCells noCells 32 HRb4.out rfl rfl hnl rfl noCells_one ?_; intro w6 HB6 hg6)
            | fail)
          exact bodyPost_ret (results_row_tmp rfl _ _ w.heap.size 32 noCells.toArray (0, 0) _ (.int .i64 4) rfl rfl HB6 Try.underlying32 rfl (by simpa using hnl)) rfl (parse_bad HE.out (by decide) (HBw4.out.grown hg6 HBw4.out.size (fun j hj => by injection hj with hj; omega)))
      · have hst : ¬ str = ⟨#[77, 90]⟩ := fun h => hm (Hmag.out.1 h)
        have hst5 : (str.toList == [77, 90]) = false := by
          rw [beq_eq_false_iff_ne]
          intro h
          rw [ByteArray.toList_eq] at h
          exact hst (by rcases str with ⟨⟨l⟩⟩; simp at h; subst h; rfl)
        have he := parse_form h91 hns (fun h => hm (pack_head h.2))
        have HE := veil he
        clear hns hfr hm Hmag he
        go_wp2_with (first
          | (refine wpList_store_new w2 rfl 32 (.tmp 6) (.tmp 15) rfl _ xs rfl rfl (info_file Hlen.out) (by rw [Hlen.out]; rfl) hone ?_; have k1 := HBR.out.cell (i := 1) (v := .bool false) rfl)
          | (refine wpList_store_blk _ rfl 32 (.tmp 2) (.tmp 26) rfl w.heap.size noCells noCells 32 HRb3.out rfl rfl hnl rfl noCells_one ?_; intro w6 HB6 hg6)
          | fail)
        exact bodyPost_ret (results_row_tmp rfl _ _ w.heap.size 32 noCells.toArray (0, 0) _ (.int .i64 4) rfl rfl HB6 Try.underlying32 rfl (by simpa using hnl)) rfl (parse_bad HE.out (by decide) (HBw3.out.grown hg6 HBw3.out.size (fun j hj => by injection hj with hj; omega)))
end Go.Proofs.Ytmdjhbkpekepgaa

/- From the form's readings of the arguments to the words of Mem: slices of integers, slices of structs of integers. -/
namespace Go.Proofs.Ytmdjhbkpekepgaa
open Go.RowKit Go.ChangeShapes Go.WideShapes Go.ChangeAt Go.Deep
set_option linter.unusedVariables false
set_option linter.unusedSimpArgs false
set_option maxRecDepth 100000

theorem own : ownKnob Try.prog.godebug = none := by kernel_rfl
theorem laidOut : laidOutB Try.prog = true := by kernel_rfl

section
variable {H : Type} {enc : TypeId × Value → H}

theorem bulk_pos (d : DataW H) : 1 ≤ Rows.uptoBulk d := by
  cases d with
  | lit l => cases l <;> simp [Rows.uptoBulk]
  | nil => simp [Rows.uptoBulk]
  | ptr d => simp [Rows.uptoBulk]
  | slice elems spare => simp [Rows.uptoBulk]
  | agg parts => simp [Rows.uptoBulk]
  | iface t d => simp [Rows.uptoBulk]
  | map entries => simp [Rows.uptoBulk]
  | held h => simp [Rows.uptoBulk]
theorem bulk_length (l : List (DataW H)) : l.length ≤ Rows.uptoBulkAll l := by
  induction l with
  | nil => simp [Rows.uptoBulkAll]
  | cons x r ih => have := bulk_pos x; simp only [Rows.uptoBulkAll, List.length_cons]; omega

/-- A slice of integers that came in. -/
theorem openInts {W : World} {t e : TypeId} {k : IntKind} {a : Option Addr} {len cap : Nat} {d : DataW H} {p : List MemPlace} {sp : Nat → Bool} {hd : Bool}
    (ht : Try.prog.underlying t = some (.slice e)) (he : Try.prog.underlying e = some (.int k)) (hc : Try.prog.cellsOf e = 1)
    (h : DataW.Trod enc Try.prog W 0 sp hd t (.slice a len cap) d p) :
    ∃ xs : List Int, len = xs.length ∧ Seen W W.heap.size a (ints k xs) ∧ (∀ x ∈ xs, (Lit.int k x).wf = true) ∧ xs.length ≤ maxLen ∧ cap ≤ maxLen ∧ xs.length ≤ cap ∧ xs.length ≤ Rows.uptoBulk d := by
  obtain ⟨fuel, hf⟩ := h
  rcases open_ints ht he hc hf with ⟨hcs, _⟩ | ⟨x, l, c, zs, hcs, _, hl, hm, hz, hx, hcell, hwz⟩
  · simp [Value.cells] at hcs
    obtain ⟨rfl, rfl, rfl⟩ := hcs
    exact ⟨[], rfl, .inl rfl, by simp, Nat.zero_le _, Nat.zero_le _, Nat.zero_le _, Nat.zero_le _⟩
  · simp [Value.cells] at hcs
    obtain ⟨rfl, rfl, rfl⟩ := hcs
    have hlz : len ≤ zs.length := by rw [hz]; split <;> omega
    simp only [Prod.mk.injEq] at hx
    refine ⟨zs.take len, by simp [Nat.min_eq_left hlz], ?_, fun x hx => hwz x (List.mem_of_mem_take hx), by simp; omega, hm, by simp; omega, ?_⟩
    · by_cases h0 : len = 0
      · subst h0; exact .inl rfl
      · have h1 := hcell 0 (by omega)
        have hsp := World.cell?_spot h1
        have hb := World.block_lt_of_cell? W _ h1
        obtain ⟨b, o, s⟩ := x
        simp [Addr.add] at hsp hb
        subst hsp
        refine .inr ⟨b, o, rfl, hb, fun j u hu => ?_⟩
        have hj : j < zs.length := by
          have := (List.getElem?_eq_some_iff.1 hu).1
          simp [ints] at this; omega
        have h2 := hcell j hj
        have h3 : (ints k (zs.take len))[j]? = some (.int k (zs.getD j 0)) := by
          have hjl : j < len := by
            have := (List.getElem?_eq_some_iff.1 hu).1
            simp [ints] at this; omega
          simp [ints, List.getElem?_take, hjl, hj]
        rw [h3] at hu
        injection hu with hu
        subst hu
        rw [← h2]
        unfold Addr.add
        split
        · rename_i e; subst e; rfl
        · rfl
    · rw [hx.1]
      simp only [Rows.uptoBulk]
      have h1 := bulk_length (lits (H := H) k (zs.take len))
      have h2 : (lits (H := H) k (zs.take len)).length = (zs.take len).length := by simp [lits]
      omega

end
end Go.Proofs.Ytmdjhbkpekepgaa
