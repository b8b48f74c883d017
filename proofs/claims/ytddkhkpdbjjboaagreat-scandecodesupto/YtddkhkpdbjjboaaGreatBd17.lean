/- Texts shared by the claims of this seat, in one. -/
import Derived.Test.YtddkhkpdbjjboaaGreatBd9
import Derived.Test.YtddkhkpdbjjboaaGreatBd4
import Derived.Laws.MakeOwn
import Derived.Deep.DeepCutAuto
import Derived.Test.YtddkhkpdbjjboaaGreatBd6
import Derived.Test.YtddkhkpdbjjboaaGreatBd12
import Derived.Test.YtddkhkpdbjjboaaGreatBd16
import Derived.Test.YtddkhkpdbjjboaaGreatBd10
import Derived.Test.YtddkhkpdbjjboaaGreatBd5
import Derived.Deep.Cut
import Derived.Test.YtddkhkpdbjjboaaGreatBd13
import Derived.Test.YtddkhkpdbjjboaaGreatRows
import Derived.ProofKit
import Derived.OpenShut
import Derived.ChangeSame
import Derived.Deep.Slices
import Derived.SizedLaws
/- seg.Counts: its contract. -/
namespace Go.Proofs.YtddkhkpdbjjboaaGreat
open Go.RowKit
set_option linter.unusedVariables false
set_option linter.unusedSimpArgs false
set_option maxRecDepth 100000

theorem info_int' : (Tryz.prog.info? 3).map (fun i => (i.zero, i.size, i.bytes)) = some (some (.int .i64 0), 1, 8) := by kernel_rfl
def zero256 : List Value := ints .i64 (List.replicate 256 0)
theorem made256 : madeCells (Value.int .i64 0).cells 256 = zero256.toArray := by kernel_rfl
theorem run_make256 (u : World) : (Instr.makeSlice 23 (.int .i64 256) (.int .i64 256)).run Tryz.prog u = .ok (.slice (some ⟨u.heap.size, 0, none⟩) 256 256) (u.alloc (.cells zero256.toArray 3)) := by
  obtain ⟨i0, hi, hz0, hz1, hz2⟩ := info_parts info_int'
  have h := run_make (P := Tryz.prog) u 23 3 i0 (.int .i64 0) Tryz.underlying23 hi hz0 .i64 .i64 256 256 (by omega) (by omega) (by rw [hz2]; omega) (by omega)
  rw [hz1] at h
  rw [← made256]
  exact h
theorem four0 (w : World) (xs : List Value) (t : TypeId) (b c d : Obj) : Blk ((((w.alloc (.cells xs.toArray t)).alloc b).alloc c).alloc d).drew w.heap.size xs t :=
  ((((Blk.new w xs t).below (below1 _ b) (by simp)).below (below1 _ c) (by simp; omega)).below (below1 _ d).drew (by simp; omega))
theorem four1 (w : World) (xs : List Value) (t : TypeId) (a c d : Obj) : Blk ((((w.alloc a).alloc (.cells xs.toArray t)).alloc c).alloc d).drew (w.heap.size + 1) xs t := by
  have h := Blk.new (w.alloc a) xs t
  rw [World.size_alloc] at h
  exact (h.below (below1 _ c) (by simp)).below (below1 _ d).drew (by simp)
theorem four2 (w : World) (xs : List Value) (t : TypeId) (a b d : Obj) : Blk ((((w.alloc a).alloc b).alloc (.cells xs.toArray t)).alloc d).drew (w.heap.size + 1 + 1) xs t := by
  have h := Blk.new ((w.alloc a).alloc b) xs t
  rw [World.size_alloc, World.size_alloc] at h
  exact h.below (below1 _ d).drew (by simp)
theorem four3 (w : World) (xs : List Value) (t : TypeId) (a b c : Obj) : Blk ((((w.alloc a).alloc b).alloc c).alloc (.cells xs.toArray t)).drew (w.heap.size + 1 + 1 + 1) xs t := by
  have h := Blk.new (((w.alloc a).alloc b).alloc c) xs t
  rw [World.size_alloc, World.size_alloc, World.size_alloc] at h
  exact h
theorem four_below (w : World) (a b c d : Obj) : Below w.heap.size w ((((w.alloc a).alloc b).alloc c).alloc d).drew :=
  (((((Below.refl _ w).alloc (Nat.le_refl _) a).alloc (by simp) b).alloc (by simp; omega) c).alloc (by simp; omega) d).drew
/-- What the counting keeps. -/
def cntI (c1 c2 p1 p2 : Nat) (W : World) (F : Nat → Prop) (acc : List (Bool × Int × Int × Int)) : Prop :=
  Blk W c1 [.slice (some ⟨p1, 0, none⟩) 256 256] 23 ∧ Blk W c2 [.slice (some ⟨p2, 0, none⟩) 256 256] 23 ∧ Blk W p1 (ints .i64 (tally true acc)) 3 ∧ Blk W p2 (ints .i64 (tally false acc)) 3 ∧ F = fun q => q = p1 ∨ q = p2
theorem ints_set (xs : List Int) (i : Nat) (x : Int) : (ints .i64 xs).set i (.int .i64 x) = ints .i64 (xs.set i x) := by simp [ints]
theorem cnt_step (c1 c2 p1 p2 : Nat) (first : Bool) (t : Int × Int × Int) (W : World) (F : Nat → Prop) (acc : List (Bool × Int × Int × Int)) (h : cntI c1 c2 p1 p2 W F acc) (hacc : acc.length < 25600) (hg : goodT t) (h1 : c1 ≠ p1) (h2 : c1 ≠ p2) (h3 : c2 ≠ p1) (h4 : c2 ≠ p2) (h5 : p1 ≠ p2) :
    Calls Tryz.prog 41 #[tokV t, .bool first, .pointer (some ⟨c1, 0, none⟩), .pointer (some ⟨c2, 0, none⟩)] W fun e W' => e = .returned (.tuple #[]) ∧ ∃ F', cntI c1 c2 p1 p2 W' F' (acc ++ [(first, t)]) ∧ Only F W W' ∧ ∀ q, F' q → F q ∨ W.heap.size ≤ q := by
  obtain ⟨hc1, hc2, hp1, hp2, rfl⟩ := h
  obtain ⟨t0, t1, t2⟩ := t
  have hs := hg.2
  simp only at hs
  obtain ⟨S, hS⟩ : ∃ S : Nat, t0 = (S : Int) := ⟨t0.toNat, by omega⟩
  subst hS
  have hS256 : S < 256 := by omega
  have hb0 := below1 W (.cells #[.int .i64 (S : Int), .int .i64 t1, .int .i64 t2] 73)
  have d1 := (hc1.below hb0 hc1.lt).cell (i := 0) (v := .slice (some ⟨p1, 0, none⟩) 256 256) rfl
  have d2 := (hc2.below hb0 hc2.lt).cell (i := 0) (v := .slice (some ⟨p2, 0, none⟩) 256 256) rfl
  have hz0 : (W.alloc (.cells #[.int .i64 (S : Int), .int .i64 t1, .int .i64 t2] 73)).heap.size = W.heap.size + 1 := by simp
  cases first with
  | true =>
    obtain ⟨x, hx⟩ := some_at (xs := tally true acc) (j := S) (by rw [tally_length]; exact hS256)
    have hxb := tally_in true acc x (List.mem_of_getElem? hx)
    have hB := hp1.below hb0 hp1.lt
    have k1 := hB.cell (i := S) (v := .int .i64 x) (ints_at hx)
    have f1 := hB.frozen S
    have hB2 := hB.set S (.int .i64 (x + 1))
    have hbump : (ints .i64 (tally true acc)).set S (.int .i64 (x + 1)) = ints .i64 (tally true (acc ++ [(true, (S : Int), t1, t2)])) := by
      rw [tally_snoc, if_pos rfl, ints_set]; unfold bump
      rw [Int.toNat_natCast, List.getD_eq_getElem?_getD, hx]; rfl
    rw [hbump] at hB2
    have hsame : tally false (acc ++ [(true, (S : Int), t1, t2)]) = tally false acc := by rw [tally_snoc, if_neg (by simp)]
    have hg2 := grown_setCell (W.alloc (.cells #[.int .i64 (S : Int), .int .i64 t1, .int .i64 t2] 73)) p1 S (.int .i64 (x + 1))
    have hw : IntKind.i64.wrap (x + 1) = x + 1 := by rw [IntKind.wrap_i64]; omega
    have hres : Hid (∃ F', cntI c1 c2 p1 p2 ((W.alloc (.cells #[.int .i64 (S : Int), .int .i64 t1, .int .i64 t2] 73)).setCell ⟨p1, S, none⟩ (.int .i64 (x + 1))) F' (acc ++ [(true, (S : Int), t1, t2)]) ∧ Only (fun q => q = p1 ∨ q = p2) W ((W.alloc (.cells #[.int .i64 (S : Int), .int .i64 t1, .int .i64 t2] 73)).setCell ⟨p1, S, none⟩ (.int .i64 (x + 1))) ∧ ∀ q, F' q → (fun q => q = p1 ∨ q = p2) q ∨ W.heap.size ≤ q) :=
      ⟨fun q => q = p1 ∨ q = p2, ⟨(hc1.below hb0 hc1.lt).kept hg2 (by simpa using h1), (hc2.below hb0 hc2.lt).kept hg2 (by simpa using h3), hB2, by rw [hsame]; exact (hp2.below hb0 hp2.lt).kept hg2 (by simpa using h5.symm), rfl⟩,
        (Only.of_below hb0 (Nat.le_refl _) : Only (fun q => q = p1 ∨ q = p2) _ _).trans (Only.of_grown hg2 (F := fun q => q = p1 ∨ q = p2) (fun g e => .inl (.inl (by injection e with e; exact e.symm)))) (fun q h => .inl h), fun q h => .inl h⟩
    clear hB2 hbump hsame hg2 hc1 hc2 hp1 hp2 hB hb0 hx hxb hg
    unfold tokV
    go_enter Tryz.func41, Tryz.ntmps41
    go_wp2_with fail
    go_end0
    exact ⟨rfl, hres.out⟩
  | false =>
    obtain ⟨x, hx⟩ := some_at (xs := tally false acc) (j := S) (by rw [tally_length]; exact hS256)
    have hxb := tally_in false acc x (List.mem_of_getElem? hx)
    have hB := hp2.below hb0 hp2.lt
    have k1 := hB.cell (i := S) (v := .int .i64 x) (ints_at hx)
    have f1 := hB.frozen S
    have hB2 := hB.set S (.int .i64 (x + 1))
    have hbump : (ints .i64 (tally false acc)).set S (.int .i64 (x + 1)) = ints .i64 (tally false (acc ++ [(false, (S : Int), t1, t2)])) := by
      rw [tally_snoc, if_pos rfl, ints_set]; unfold bump
      rw [Int.toNat_natCast, List.getD_eq_getElem?_getD, hx]; rfl
    rw [hbump] at hB2
    have hsame : tally true (acc ++ [(false, (S : Int), t1, t2)]) = tally true acc := by rw [tally_snoc, if_neg (by simp)]
    have hg2 := grown_setCell (W.alloc (.cells #[.int .i64 (S : Int), .int .i64 t1, .int .i64 t2] 73)) p2 S (.int .i64 (x + 1))
    have hw : IntKind.i64.wrap (x + 1) = x + 1 := by rw [IntKind.wrap_i64]; omega
    have hres : Hid (∃ F', cntI c1 c2 p1 p2 ((W.alloc (.cells #[.int .i64 (S : Int), .int .i64 t1, .int .i64 t2] 73)).setCell ⟨p2, S, none⟩ (.int .i64 (x + 1))) F' (acc ++ [(false, (S : Int), t1, t2)]) ∧ Only (fun q => q = p1 ∨ q = p2) W ((W.alloc (.cells #[.int .i64 (S : Int), .int .i64 t1, .int .i64 t2] 73)).setCell ⟨p2, S, none⟩ (.int .i64 (x + 1))) ∧ ∀ q, F' q → (fun q => q = p1 ∨ q = p2) q ∨ W.heap.size ≤ q) :=
      ⟨fun q => q = p1 ∨ q = p2, ⟨(hc1.below hb0 hc1.lt).kept hg2 (by simpa using h2), (hc2.below hb0 hc2.lt).kept hg2 (by simpa using h4), by rw [hsame]; exact (hp1.below hb0 hp1.lt).kept hg2 (by simpa using h5), hB2, rfl⟩,
        (Only.of_below hb0 (Nat.le_refl _) : Only (fun q => q = p1 ∨ q = p2) _ _).trans (Only.of_grown hg2 (F := fun q => q = p1 ∨ q = p2) (fun g e => .inl (.inr (by injection e with e; exact e.symm)))) (fun q h => .inl h), fun q h => .inl h⟩
    clear hB2 hbump hsame hg2 hc1 hc2 hp1 hp2 hB hb0 hx hxb hg
    unfold tokV
    go_enter Tryz.func41, Tryz.ntmps41
    go_wp2_with fail
    go_end0
    exact ⟨rfl, hres.out⟩
theorem cnt_taker (c1 c2 p1 p2 G : Nat) (h1 : c1 ≠ p1) (h2 : c1 ≠ p2) (h3 : c2 ≠ p1) (h4 : c2 ≠ p2) (h5 : p1 ≠ p2) (g1 : G ≤ p1) (g2 : G ≤ p2) : Taker 41 #[.pointer (some ⟨c1, 0, none⟩), .pointer (some ⟨c2, 0, none⟩)] G (cntI c1 c2 p1 p2) where
  enters := Enters.of Tryz.func41 (by kernel_rfl) (by kernel_rfl)
  foot h q hq := by
    obtain ⟨_, _, hp1, hp2, rfl⟩ := h
    rcases hq with rfl | rfl
    · exact ⟨hp1.lt, g1⟩
    · exact ⟨hp2.lt, g2⟩
  keep h hb := by
    obtain ⟨hc1, hc2, hp1, hp2, rfl⟩ := h
    exact ⟨hc1.below hb hc1.lt, hc2.below hb hc2.lt, hp1.below hb hp1.lt, hp2.below hb hp2.lt, rfl⟩
  take first t h ha hg := cnt_step c1 c2 p1 p2 first t _ _ _ h ha hg h1 h2 h3 h4 h5
set_option maxHeartbeats 4000000 in
theorem segCounts_any (L : List (List Int)) (A : Option Addr) (c G : Nat) (w : World) (hl : ∀ r ∈ L, r.length = 64) (hm : L.length ≤ maxLen) (hs : L.length ≤ 400 → Seen w G A (rowsC L)) (hG : G ≤ w.heap.size) :
    Calls Tryz.prog 21 #[.slice A L.length c] w fun e w' => ∃ v1 v2, e = .returned (.tuple #[v1, v2, .int .i64 (eL L)]) ∧ Owns w.heap.size [intRow 3 .i64 v1 (cntL true L), intRow 3 .i64 v2 (cntL false L)] w' ∧ Below w.heap.size w w' := by
  have HEa := veil (fun c1 c2 p1 p2 W (hT : Taker 41 #[.pointer (some ⟨c1, 0, none⟩), .pointer (some ⟨c2, 0, none⟩)] w.heap.size (cntI c1 c2 p1 p2)) (hI : cntI c1 c2 p1 p2 W (fun q => q = p1 ∨ q = p2) []) (hb : Below w.heap.size w W) =>
    eachToken_any _ _ w.heap.size (cntI c1 c2 p1 p2) hT (fun q => q = p1 ∨ q = p2) L A c W hl hm (fun h => ((hs h).below hb hG).up hG) hb.size hI)
  obtain ⟨E, hE⟩ : ∃ E, E = eL L := ⟨_, rfl⟩
  obtain ⟨X, hX⟩ : ∃ X, X = cntL true L := ⟨_, rfl⟩
  obtain ⟨Y, hY⟩ : ∃ Y, Y = cntL false L := ⟨_, rfl⟩
  rw [← hE, ← hX, ← hY]
  rw [← hE] at HEa
  have HXe : Hid (E ≠ 0 → X = [] ∧ Y = []) := fun h => ⟨hX.trans (if_neg (by rw [← hE]; exact h)), hY.trans (if_neg (by rw [← hE]; exact h))⟩
  have HXo : Hid (E = 0 → X = tally true (toksB 0 L) ∧ Y = tally false (toksB 0 L)) := fun h => ⟨hX.trans (if_pos (by rw [← hE]; exact h)), hY.trans (if_pos (by rw [← hE]; exact h))⟩
  have HE := veil hE
  clear hX hY
  have hmk := run_make256
  clear hE hs
  go_enter Tryz.func21, Tryz.ntmps21
  go_wp2_with fail
  go_cut [5, 6] (fun v5 v6 wx => ∃ c1 c2 p1 p2 : Nat, v5 = .pointer (some ⟨c1, 0, none⟩) ∧ v6 = .pointer (some ⟨c2, 0, none⟩) ∧ Blk wx c1 [.slice (some ⟨p1, 0, none⟩) 256 256] 23 ∧ Blk wx c2 [.slice (some ⟨p2, 0, none⟩) 256 256] 23 ∧ Blk wx p1 zero256 3 ∧ Blk wx p2 zero256 3 ∧ c1 ≠ c2 ∧ p1 ≠ p2 ∧ c1 ≠ p1 ∧ c1 ≠ p2 ∧ c2 ≠ p1 ∧ c2 ≠ p2 ∧ w.heap.size ≤ c1 ∧ w.heap.size ≤ c2 ∧ w.heap.size ≤ p1 ∧ w.heap.size ≤ p2 ∧ Below w.heap.size w wx)
  case first =>
    go_region
    all_goals (go_wp2; go_meet)
    all_goals refine ⟨_, _, _, _, rfl, rfl, (by first | exact four0 _ _ _ _ _ _ | exact four1 _ _ _ _ _ _ | exact four2 _ _ _ _ _ _ | exact four3 _ _ _ _ _ _), (by first | exact four0 _ _ _ _ _ _ | exact four1 _ _ _ _ _ _ | exact four2 _ _ _ _ _ _ | exact four3 _ _ _ _ _ _), (by first | exact four0 _ _ _ _ _ _ | exact four1 _ _ _ _ _ _ | exact four2 _ _ _ _ _ _ | exact four3 _ _ _ _ _ _), (by first | exact four0 _ _ _ _ _ _ | exact four1 _ _ _ _ _ _ | exact four2 _ _ _ _ _ _ | exact four3 _ _ _ _ _ _), by omega, by omega, by omega, by omega, by omega, by omega, by omega, by omega, by omega, by omega, four_below _ _ _ _ _⟩
  case rest =>
    obtain ⟨c1, c2, p1, p2, rfl, rfl, hc1, hc2, hp1, hp2, n1, n2, n3, n4, n5, n6, l1, l2, l3, l4, hb⟩ := hcut
    have HEc := veil (HEa.out c1 c2 p1 p2 wc (cnt_taker c1 c2 p1 p2 w.heap.size n3 n4 n5 n6 n2 l3 l4) ⟨hc1, hc2, hp1, hp2, rfl⟩ hb)
    have hzc := hb.size
    clear hmk HEa hc1 hc2 hp1 hp2
    go_wp2_with fail
    refine HEc.out.mono ?_
    rintro e w2 ⟨rfl, F, acc, ⟨hc1, hc2, hp1, hp2, rfl⟩, hOn, _, hacc⟩
    have hb2 : Below w.heap.size w w2 := hb.trans (hOn.below hzc (fun q hq => by rcases hq with rfl | rfl <;> assumption))
    have hl1 := tally_length true acc
    have hl2 := tally_length false acc
    by_cases h0 : E = 0
    · subst h0
      have hac := hacc rfl
      have d1 := hc1.cell (i := 0) (v := .slice (some ⟨p1, 0, none⟩) 256 256) rfl
      have d2 := hc2.cell (i := 0) (v := .slice (some ⟨p2, 0, none⟩) 256 256) rfl
      have own := fun (p : Nat) (X : List Int) (hx : X.length = 256) (hp : Blk w2 p (ints .i64 X) 3) (hw : w.heap.size ≤ p) =>
        (⟨by rw [ints_length, hx], .inr ⟨p, 256, (ints .i64 X).toArray, rfl, hw, hp, by omega, by unfold maxLen; omega, by simp [ints_length, hx], by rw [List.take_of_length_le (by simp [ints_length, hx])]⟩⟩ : w2.ownsRow w.heap.size 3 1 (.slice (some ⟨p, 0, none⟩) 256 256) 256 (ints .i64 X))
      have o1 := own p1 _ hl1 hp1 l3
      have o2 := own p2 _ hl2 hp2 l4
      have HOw : Hid (Owns w.heap.size [intRow 3 .i64 (.slice (some ⟨p1, 0, none⟩) 256 256) (tally true acc), intRow 3 .i64 (.slice (some ⟨p2, 0, none⟩) 256 256) (tally false acc)] w2) :=
        ⟨hb2.size, fun r hr => by
          rcases List.mem_cons.1 hr with rfl | hr
          · simp only [intRow, hl1]; exact o1
          · rw [List.mem_singleton.1 hr]; simp only [intRow, hl2]; exact o2, by
          refine List.pairwise_cons.2 ⟨fun s hs g hg hg2 => ?_, List.pairwise_singleton _ _⟩
          rw [List.mem_singleton.1 hs] at hg2
          simp only [intRow, Value.ownBlock] at hg hg2
          injection hg with hg; injection hg2 with hg2; omega⟩
      clear own o1 o2 hc1 hc2 hp1 hp2 hacc hOn
      go_wp2_with fail
      go_quiet (fail)
      go_wp2_with fail
      go_ret3
      exact ⟨_, _, rfl, by rw [(HXo.out trivial).1, (HXo.out trivial).2, ← hac]; exact HOw.out.drewN _, hb2.drewN _⟩
    · have hbe : (E != 0) = true := by simpa using h0
      have H0 := veil h0
      clear h0 hacc hOn hc1 hc2 hp1 hp2
      go_wp2_with fail
      go_ret3
      exact ⟨_, _, rfl, by rw [(HXe.out H0.out).1, (HXe.out H0.out).2]; exact ((Owns.nil hb2.size).fresh _ _).fresh _ _, hb2⟩
end Go.Proofs.YtddkhkpdbjjboaaGreat

/- Parts of a slice of blocks. -/
namespace Go.Proofs.YtddkhkpdbjjboaaGreat
open Go.RowKit
set_option linter.unusedVariables false
set_option linter.unusedSimpArgs false
set_option maxRecDepth 100000

def cutR (A : Option Addr) (f h c : Nat) : Value := .slice (if c = f then A else A.map (·.add (f * 64))) (h - f) (c - f)
theorem run_cutR_to (A : Option Addr) (n c h : Nat) (h2 : h ≤ c) (u : World) : (Instr.sliceAt 29 (.slice A n c) none (some (.int .i64 (h : Int))) none).run Tryz.prog u = .ok (.slice A h c) u := by
  have he : Tryz.prog.underlying 29 = some (.slice (Tryz.prog.elem 29)) := by kernel_rfl
  have hz : (sizeOf (Tryz.prog.elem 29)).run Tryz.prog u = .ok 64 u := by kernel_rfl
  rw [run_sliceAt_slice _ _ _ _ _ _ he, run_slice_h _ _ _ _ _ he _ _ (by omega) (by omega), hz]
  simp [Result.andThen, sliced]
  intro _
  cases A with
  | none => rfl
  | some a => simp [Addr.add]
theorem run_cutR_end (A : Option Addr) (n c f : Nat) (h1 : f ≤ n) (u : World) : (Instr.sliceAt 29 (.slice A n c) (some (.int .i64 (f : Int))) none none).run Tryz.prog u = .ok (cutR A f n c) u := by
  have he : Tryz.prog.underlying 29 = some (.slice (Tryz.prog.elem 29)) := by kernel_rfl
  have hz : (sizeOf (Tryz.prog.elem 29)).run Tryz.prog u = .ok 64 u := by kernel_rfl
  rw [run_sliceAt_slice _ _ _ _ _ _ he, run_slice_l _ _ _ _ _ he _ _ (by omega) (by omega), hz]
  simp [Result.andThen, sliced, cutR]
theorem cutR_drop {w : World} {G c f : Nat} {A : Option Addr} {L : List (List Int)} (hl : ∀ r ∈ L, r.length = 64) (hs : Seen w G A (rowsC L)) (hf : f ≤ L.length) (hc : L.length ≤ c) :
    ∃ A', cutR A f L.length c = .slice A' (L.drop f).length (c - f) ∧ Seen w G A' (rowsC (L.drop f)) := by
  refine ⟨_, by rw [cutR, List.length_drop], ?_⟩
  by_cases hcf : c = f
  · have : L.drop f = [] := List.drop_of_length_le (by omega)
    rw [this]; exact .inl rfl
  · rw [if_neg hcf]
    have h9 := rowsC_take L f
    have h8 : (rowsC (L.take f)).length = f * 64 := by
      rw [rowsC_length (n := 64) (fun r hr => hl r (List.mem_of_mem_take hr)), List.length_take, Nat.min_eq_left hf]
    rcases hs with hs | ⟨g, o, rfl, hg, hcell⟩
    · rw [hs] at h9
      exact .inl (List.append_eq_nil_iff.1 h9.symm).2
    · refine .inr ⟨g, o + f * 64, by simp [addr_add], hg, fun j u hu => ?_⟩
      have h7 : (rowsC L)[f * 64 + j]? = some u := by
        rw [h9, List.getElem?_append_right (by omega), h8, Nat.add_sub_cancel_left]; exact hu
      have := hcell _ _ h7
      rw [← this]; congr 2; omega
theorem cutR_take {w : World} {G k : Nat} {A : Option Addr} {L : List (List Int)} (hs : Seen w G A (rowsC L)) : Seen w G A (rowsC (L.take k)) := by
  have h9 := rowsC_take L k
  rcases hs with hs | ⟨g, o, rfl, hg, hcell⟩
  · rw [hs] at h9
    exact .inl (List.append_eq_nil_iff.1 h9.symm).1
  · refine .inr ⟨g, o, rfl, hg, fun j u hu => hcell j u ?_⟩
    rw [h9, List.getElem?_append_left (List.getElem?_eq_some_iff.1 hu).1]; exact hu
end Go.Proofs.YtddkhkpdbjjboaaGreat

/- scan.Encode: its contract. -/
namespace Go.Proofs.YtddkhkpdbjjboaaGreat
open Go.RowKit
set_option linter.unusedVariables false
set_option linter.unusedSimpArgs false
set_option maxRecDepth 100000

/-- The marker ahead of segment k. -/
def mkB (k : Nat) : List Int := if k = 0 then ([] : List Int) else ([255, 208 + (((k + 7) % 8 : Nat) : Int)] : List Int)
theorem mkB_len (k : Nat) : (mkB k).length ≤ 2 := by unfold mkB; split <;> simp
set_option maxRecDepth 100000 in
set_option maxHeartbeats 2000000 in
theorem scanEncode_any : EncSpec := by
  intro cs syms A c cs2 syms2 A2 c2 G L A3 c3 every w hTI hl hm hcap3 hs3 hG
  obtain ⟨hcs, hn, hcap, hb, hs, hcs2, hn2, hcap2, hb2, hs2⟩ := hTI
  have h34 : (tabsCells cs A syms.length c cs2 A2 syms2.length c2).length = 34 := by unfold tabsCells; rw [List.length_append, tabCells_length hcs, tabCells_length hcs2]
  have HCk := veil (fun W h1 h2 hG => checkTables_any cs syms A c cs2 syms2 A2 c2 G W hcs hn hb h1 hcs2 hn2 hb2 h2 hG)
  have HBk := veil (fun W h hG => segCounts_any L A3 c3 G W hl hm (fun _ => h) hG)
  have HEn := veil (fun M A' c' W h1 h2 h3 (hl : ∀ r ∈ M, r.length = 64) (hm : M.length ≤ maxLen) hG => segEncode_any cs syms A c cs2 syms2 A2 c2 G M A' c' W hcs hn hb h1 hcs2 hn2 hb2 h2 hl hm h3 hG)
  have HFl := veil (fun (M : List (List Int)) (h : ∀ r ∈ M, r.length = 64) => segF_len (cs := cs) (syms := syms) (cs2 := cs2) (syms2 := syms2) hcs hcs2 h)
  have hb0 := below1 w (.cells (tabsCells cs A syms.length c cs2 A2 syms2.length c2).toArray 27)
  have hz0 : (w.alloc (.cells (tabsCells cs A syms.length c cs2 A2 syms2.length c2).toArray 27)).heap.size = w.heap.size + 1 := by simp
  have hTB := Blk.new w (tabsCells cs A syms.length c cs2 A2 syms2.length c2) 27
  obtain ⟨E, hE⟩ : ∃ E, E = eScan cs syms cs2 syms2 L every := ⟨_, rfl⟩
  obtain ⟨O, hO⟩ : ∃ O, O = oScan cs syms cs2 syms2 L every := ⟨_, rfl⟩
  rw [← hE, ← hO]
  have HOe : Hid (E ≠ 0 → O = []) := by show _ → _; intro h; rw [hO]; exact oScan_err (by rw [← hE]; exact h)
  have HE := veil hE
  have HO := veil hO
  have H34 := veil h34
  have Hl := veil hl
  have hs3' := hs3; have hs' := hs; have hs2' := hs2
  clear hcs hcs2 hb hb2 hE hO h34 hl hn hn2 hcap hcap2
  unfold tabsV at HCk HEn ⊢
  generalize tabsCells cs A syms.length c cs2 A2 syms2.length c2 = zs at *
  have hr0 := hTB.range
  go_enter Tryz.func7, Tryz.ntmps7
  by_cases hrg : every < 0 ∨ 100 < every
  · have hE1 := HE.out.trans (eScan_every hrg)
    have hO1 := HOe.out (by rw [hE1]; decide)
    have HE1 := veil hE1
    have HO1 := veil hO1
    have HOu := veil (isEvery_no every hrg (w.alloc (.cells zs.toArray 27)))
    clear hE1 hO1 hrg
    go_wp2_with fail
    refine HOu.out.mono ?_
    rintro e w2 ⟨rfl, hw2⟩
    rw [hw2]
    go_wp2
    go_ret2
    exact ⟨_, ret_two rfl (by rw [HE1.out]; rfl), by rw [HO1.out]; exact (Owns.nil hb0.size).fresh _ _, hb0⟩
  · have Hrg := veil hrg
    obtain ⟨Ev, hEv, hEv100⟩ : ∃ Ev : Nat, every = (Ev : Int) ∧ Ev ≤ 100 := ⟨every.toNat, by omega, by omega⟩
    subst hEv
    have HOu := veil (isEvery_yes (Ev : Int) hrg (w.alloc (.cells zs.toArray 27)))
    clear hrg
    obtain ⟨W0, hW0⟩ : ∃ W0, W0 = w.alloc (.cells zs.toArray 27) := ⟨_, rfl⟩
    have HW0 := veil hW0
    rw [← hW0] at hb0 hz0 hTB hr0 HOu
    clear hW0
    go_wp2_with fail
    rw [← HW0.out]
    refine HOu.out.mono ?_
    rintro e w1' ⟨rfl, hw1⟩
    have hw1' : w1' = W0 := hw1
    subst w1'
    clear HOu HW0
    go_wp2_with (first
      | (refine wpList_load_mid rfl 27 (.tmp 3) rfl w.heap.size 0 rfl zs _ hr0 Tryz.underlying27 rfl (by rw [H34.out]; kernel_rfl) ?_)
      | fail)
    refine (HCk.out _ (hs.below hb0 hG) (hs2.below hb0 hG) (by rw [hz0]; omega)).mono ?_
    rintro e w1 ⟨rfl, hb1⟩
    have hTB1 := hTB.below hb1 (by rw [hz0]; omega)
    have hbw1 := hb0.trans (hb1.mono (by rw [hz0]; omega))
    have hz1 := hb1.size
    rw [hz0] at hz1
    clear hr0 hb0 HCk hb1 hTB
    by_cases h0 : eTs cs syms cs2 syms2 = 0
    · rw [h0]
      have HT0 : Hid (eTs cs syms cs2 syms2 = 0) := h0
      clear h0
      go_wp2_with fail
      refine (HBk.out _ (hs3.below hbw1 hG) (by omega)).mono ?_
      rintro e w2 ⟨cv1, cv2, rfl, _, hb2⟩
      have hTB2 := hTB1.below hb2 (by omega)
      have hbw2 := hbw1.trans (hb2.mono hbw1.size)
      have hz2 := hb2.size
      clear HBk hbw1 hb2 hTB1
      by_cases hL : eL L = 0
      · rw [hL]
        obtain ⟨h400, hin⟩ := eL_zero hL
        have HEs : Hid (E = firstE ((segs L (Ev : Int)).map (eEnc cs syms cs2 syms2))) := HE.out.trans (eScan_seg Hrg.out HT0.out hL)
        have HOs : Hid (E = 0 → O = joinM 0 ((segs L (Ev : Int)).map (segF cs syms cs2 syms2))) := fun h => HO.out.trans (if_pos (by rw [← HE.out]; exact h))
        have HPa := veil (sizes_any L.length Ev w2 (by omega) (by omega))
        have hev : (Ev : Int).toNat = Ev := Int.toNat_natCast _
        have hsg : segs L (Ev : Int) = segsOf (partsN L.length Ev) L := by unfold segs; rw [hev]
        rw [hsg] at HEs HOs
        have hps := partsN_sum L.length Ev
        have hpi := partsN_in L.length Ev
        have hpl := partsN_len L.length Ev
        obtain ⟨ps, hpsd⟩ : ∃ ps, ps = partsN L.length Ev := ⟨_, rfl⟩
        rw [← hpsd] at HEs HOs HPa hps hpi hpl
        have Hps := veil hps; have Hpi := veil hpi; have Hin := veil hin
        clear hL hev hsg hpsd hps hpi hin HE HO
        go_wp2_with fail
        refine HPa.out.mono ?_
        rintro e w3 ⟨pv, rfl, HOp, hb3⟩
        obtain ⟨Ap, cp, hpv, hsp, _, _⟩ := HOp.seen (List.mem_cons_self ..)
        have hz3 := hb3.size
        have hvv : pv = .slice Ap ps.length cp := by
          have h9 : pv = .slice Ap (ps.map Int.ofNat).length cp := hpv
          rw [List.length_map] at h9; exact h9
        subst pv
        have hsp' : Seen w3 w3.heap.size Ap (ints .i64 (ps.map Int.ofNat)) := hsp
        have hTB3 := hTB2.below hb3 (by omega)
        have hbw3 := hbw2.trans (hb3.mono hbw2.size)
        have Hsp := veil hsp'; have HTB := veil hTB3; have Hbw3 := veil hbw3
        have hbr0 : Below w3.heap.size w3 w3 := Below.refl _ _
        have hO0 : Owns w3.heap.size [byteRow (.slice none 0 0) []] w3 := (Owns.start w3).fresh _ _
        have Hbr0 := veil hbr0; have HO0 := veil hO0
        have Hs := veil (hs.below hbw3 hG); have Hs2 := veil (hs2.below hbw3 hG); have Hs3 := veil (hs3.below hbw3 hG)
        have HL0 : Hid (L = L.drop (ps.take 0).sum) := by show _ = _; simp
        have HZ0 : Hid (∀ x ∈ ((segsOf ps L).map (eEnc cs syms cs2 syms2)).take 0, x = 0) := by show ∀ x ∈ _, _; simp
        have HJ0 : Hid (([] : List Int) = joinM 0 (((segsOf ps L).map (segF cs syms cs2 syms2)).take 0)) := by show _ = _; simp [joinM]
        have hG3 : G ≤ w3.heap.size := by omega
        have hT3 : w.heap.size < w3.heap.size := by omega
        clear HPa hsp hsp' hpv HOp hb3 hTB2 hTB3 hbw2 hbw3 hbr0 hO0 hs hs2 hs3 hs' hs2' hs3' hz2 hz1
        go_wp2_with fail
        go_loopg [1, 12, 13, 14, 15, 16, 39] ps.length (fun gk lv ov kv nv bv ev iv wr => ∃ (k : Nat) (A' : Option Addr) (c' : Nat) (M : List (List Int)) (out : List Int), gk = ps.length - k ∧ k ≤ ps.length ∧ lv = .slice A' M.length c' ∧ iv = .int .i64 (k : Int) ∧ M.length ≤ c' ∧ Hid (M = L.drop (ps.take k).sum) ∧ Hid (Seen wr G A' (rowsC M)) ∧ Hid (∀ x ∈ ((segsOf ps L).map (eEnc cs syms cs2 syms2)).take k, x = 0) ∧ Hid (out = joinM 0 (((segsOf ps L).map (segF cs syms cs2 syms2)).take k)) ∧ out.length ≤ 250004 * k ∧ Hid (Owns w3.heap.size [byteRow ov out] wr) ∧ Hid (Below w3.heap.size w3 wr))
        case atStart => exact ⟨0, A3, c3, L, [], rfl, Nat.zero_le _, rfl, rfl, hcap3, HL0, Hs3, HZ0, HJ0, by simp, HO0, Hbr0⟩
        case round =>
          clear HL0 HZ0 HJ0 HO0 Hbr0
          obtain ⟨k, A', c', M, out, rfl, hk, rfl, rfl, hMc, HM, HsM, HZ, HJ, hol, HOo, Hbr⟩ := hrel
          obtain ⟨W9, hW9⟩ : ∃ W9, W9 = wr := ⟨_, rfl⟩
          subst hW9
          by_cases hlt : k < ps.length
          · have hltz : (k : Int) < (ps.length : Int) := by omega
            obtain ⟨gp, op, x, rfl, hgp, hx, hcx⟩ := (Hsp.out.below Hbr.out (Nat.le_refl _)).int (k := k) (by rw [List.length_map]; exact hlt)
            obtain ⟨n, hn⟩ := some_at hlt
            obtain rfl : x = (n : Int) := by rw [List.getElem?_map, hn] at hx; simpa using hx.symm
            have Hn := veil hn
            have Hcx := veil hcx
            have hk400 : k ≤ 400 := by omega
            have hmkl := mkB_len k
            clear hx hn
            go_upto_if 45 with fail
            clear hcx
            go_cut [12] (fun ov wx => Hid (Owns w3.heap.size [byteRow ov (out ++ mkB k)] wx) ∧ Hid (Below w3.heap.size W9 wx))
            case first =>
              by_cases hk0 : k = 0
              · subst hk0
                clear hmkl
                go_wp2_with fail
                go_meet
                case rel => exact ⟨veil (by rw [show mkB 0 = [] from rfl, List.append_nil]; exact HOo.out), veil (Below.refl _ _)⟩
              · have hkp : (0 : Int) < (k : Int) := by omega
                obtain ⟨q, hq, hq8⟩ : ∃ q : Nat, q = (k + 7) % 8 ∧ q < 8 := ⟨_, rfl, by omega⟩
                have hmk : mkB k = [255, 208 + (q : Int)] := by unfold mkB; rw [if_neg hk0, ← hq]
                have HMa := veil (marker_any ((k : Int) - 1) q (by omega) (by omega) (by omega) W9)
                have hu8 := u8_208 q hq8
                have HMK := veil hmk
                have HOo' := HOo.out
                clear hmk hq hk0 hmkl
                go_wp2_with fail
                refine HMa.out.mono ?_
                rintro e w9 ⟨rfl, hw9⟩
                have hw9' : w9 = W9 := hw9
                subst w9
                clear HMa
                go_wp2_with (first
                  | (at_builtin; go_loud (refine wpList_ownI _ rfl (.tmp 46) (.tmp 51) _ rfl w3.heap.size 5 .u8 1 elem_byte u12 out [] rfl HOo' [255, 208 + (q : Int)] rfl (by unfold maxLen; simp; omega) (by simp; omega) ?_); intro v6 w6 HO6b hb6 hz6)
                  | fail)
                go_meet
                case rel => exact ⟨veil (by rw [HMK.out]; exact HO6b), veil hb6⟩
            case rest =>
              obtain ⟨HOc, Hbc⟩ := hcut
              obtain ⟨Wr, hWr⟩ : ∃ Wr, Wr = wc := ⟨_, rfl⟩
              subst hWr
              have hsMr := HsM.out.below Hbc.out hG3
              have HsM := veil hsMr
              have Hbr := veil (Hbr.out.trans Hbc.out)
              have hzr := Hbr.out.size
              have hsa := segsOf_at ps L k n Hn.out
              rw [← HM.out] at hsa
              have hsk := take_sum_le ps (k + 1)
              rw [Hps.out] at hsk
              have hst : (ps.take (k + 1)).sum = (ps.take k).sum + n := by rw [fc_snoc Hn.out]; simp
              have hMl : M.length = L.length - (ps.take k).sum := by rw [HM.out, List.length_drop]
              have hnM : n ≤ M.length := by omega
              have hlM : ∀ r ∈ M, r.length = 64 := fun r hr => Hl.out r (by rw [HM.out] at hr; exact List.mem_of_mem_drop hr)
              obtain ⟨A4, hA4, hsA4⟩ := cutR_drop hlM HsM.out hnM hMc
              have hct := fun u => run_cutR_to A' M.length c' n (by omega) u
              have hce := fun u => run_cutR_end A' M.length c' n hnM u
              rw [hA4] at hce
              have hMd : M.drop n = L.drop (ps.take (k + 1)).sum := by rw [HM.out, List.drop_drop, hst]
              have htl : (M.take n).length = n := by rw [List.length_take]; omega
              have hbd : Below w3.heap.size w3 Wr.drew := Hbr.out.drew
              have hC := HEn.out (M.take n) A' c' Wr.drew (Hs.out.below hbd hG3) (Hs2.out.below hbd hG3) (cutR_take (HsM.out.below (Below.refl G Wr).drew (Nat.le_refl _))) (fun r hr => hlM r (List.mem_of_mem_take hr)) (by rw [htl]; omega) (by show G ≤ Wr.heap.size; omega)
              rw [htl] at hC
              have hfl := HFl.out (M.take n) (fun r hr => hlM r (List.mem_of_mem_take hr))
              have hse : ((segsOf ps L).map (eEnc cs syms cs2 syms2))[k]? = some (eEnc cs syms cs2 syms2 (M.take n)) := by rw [List.getElem?_map, hsa]; rfl
              have hsf : ((segsOf ps L).map (segF cs syms cs2 syms2))[k]? = some (segF cs syms cs2 syms2 (M.take n)) := by rw [List.getElem?_map, hsa]; rfl
              have hso := fun out (h : SegOut cs syms cs2 syms2 (M.take n) out) => segOut_is cs syms cs2 syms2 h
              have hTBr := HTB.out.below Hbr.out hT3
              have hMd2 : (M.drop n).length ≤ c' - n := by rw [List.length_drop]; omega
              have HC := veil hC; have Hso := veil hso; have Hse := veil hse; have Hsf := veil hsf; have HMd := veil hMd; have HsA4 := veil hsA4
              obtain ⟨er, her⟩ : ∃ er, er = eEnc cs syms cs2 syms2 (M.take n) := ⟨_, rfl⟩
              obtain ⟨sf, hsfd⟩ : ∃ sf, sf = segF cs syms cs2 syms2 (M.take n) := ⟨_, rfl⟩
              rw [← her] at HC Hse
              rw [← hsfd] at Hsf Hso hfl
              clear hC hso hse hsf hMd hsA4 hsa hst hlM htl hA4 her hsfd hMl hsMr
              go_upto_region 15 with fail
              refine wp_region_held_drew (S := fun w' => Blk w' w.heap.size zs 27) (by kernel_rfl) hTBr (fun hHeld0 => ?_)
              refine take_load 0 54 27 (.tmp 3) w.heap.size 0 zs _ rfl rfl (by kernel_rfl) (by kernel_rfl) (by kernel_rfl) (fun _ _ _ h => h) rfl rfl rfl (fun w' h => h.range) Tryz.underlying27 rfl (by rw [H34.out]; kernel_rfl) hHeld0 rfl ?_
              refine take_pure 1 55 (.slice A' M.length c') _ rfl rfl (by kernel_rfl) (by kernel_rfl) (by kernel_rfl) (fun _ _ _ h => h) rfl (fun w' hS => by go_simp) hHeld0 rfl ?_
              refine take_pure 2 56 (.int .i64 (n : Int)) _ rfl rfl (by kernel_rfl) (by kernel_rfl) (by kernel_rfl) (fun _ _ _ h => h) rfl (fun w' hS => by go_simp) hHeld0 rfl ?_
              refine take_pure 3 57 (.slice A' n c') _ rfl rfl (by kernel_rfl) (by kernel_rfl) (by kernel_rfl) (fun _ _ _ h => h) rfl (fun w' hS => by go_simp) hHeld0 rfl ?_
              refine wpAnyH_ready (rs := [4]) (by kernel_rfl) (by simp) ?_
              refine AllReadyH.cons rfl (fun K hK => ?_) AllReadyH.nil
              go_simp
              refine HC.out.mono ?_
              rintro e w5 ⟨v5, out5, rfl, HO5, hS5, hb5⟩
              have hb5' : Below Wr.heap.size Wr w5 := below_of_drew hb5
              refine hK.out _ _ (hHeld0.below hb5 hHeld0.lt) (fun hHeld1 => ?_)
              clear hK K
              refine take_pure 5 53 (.tuple #[v5, .int .i64 er]) _ rfl rfl (by kernel_rfl) (by kernel_rfl) (by kernel_rfl) (fun _ _ _ h => h) rfl (fun w' hS => by go_simp) hHeld1 rfl ?_
              refine take_pure 6 59 v5 _ rfl rfl (by kernel_rfl) (by kernel_rfl) (by kernel_rfl) (fun _ _ _ h => h) rfl (fun w' hS => by go_simp) hHeld1 rfl ?_
              refine take_pure 7 60 (.int .i64 er) _ rfl rfl (by kernel_rfl) (by kernel_rfl) (by kernel_rfl) (fun _ _ _ h => h) rfl (fun w' hS => by go_simp) hHeld1 rfl ?_
              refine take_pure 8 15 v5 _ rfl rfl (by kernel_rfl) (by kernel_rfl) (by kernel_rfl) (fun _ _ _ h => h) rfl (fun w' hS => by go_simp) hHeld1 rfl ?_
              refine take_pure 9 16 (.int .i64 er) _ rfl rfl (by kernel_rfl) (by kernel_rfl) (by kernel_rfl) (fun _ _ _ h => h) rfl (fun w' hS => by go_simp) hHeld1 rfl ?_
              refine wpAnyH_done (by kernel_rfl) ?_ _
              obtain rfl := (Hso.out out5 hS5).symm
              obtain ⟨A5, c5, hv5, hs5, hc5, hm5⟩ := HO5.seen (List.mem_cons_self ..)
              obtain rfl : v5 = .slice A5 sf.length c5 := hv5
              have hz5 := hb5'.size
              have Hbr5 := veil (Hbr.out.trans (hb5'.mono hzr))
              have HO6 := (HOc.out.call hb5' HO5).swap
              have HsA4w := HsA4.out.below hb5' (by omega)
              obtain ⟨mk, hmkd⟩ : ∃ mk, mk = mkB k := ⟨_, rfl⟩
              have Hmkd := veil hmkd
              rw [← hmkd] at HO6 hmkl
              clear HO5 hS5 hb5 hs5 hHeld0 hHeld1 hTBr HC Hso hbd HOo HOc hmkd
              by_cases he : er = 0
              · subst he
                have hz2 : Hid (∀ x ∈ ((segsOf ps L).map (eEnc cs syms cs2 syms2)).take (k + 1), x = 0) := mem_snoc Hse.out HZ.out rfl
                have htk : (((segsOf ps L).map (segF cs syms cs2 syms2)).take k).length = k := by rw [List.length_take, List.length_map, segsOf_length]; omega
                have hj2 : joinM 0 (((segsOf ps L).map (segF cs syms cs2 syms2)).take (k + 1)) = (out ++ mk) ++ sf := by
                  rw [take_snoc Hsf.out, joinM_snoc, ← HJ.out, htk, Nat.zero_add, Hmkd.out, List.append_assoc]; rfl
                have Hj2 := veil hj2
                clear HsM hj2
                go_wp2_with (first
                  | (at_builtin; go_loud (refine wpList_ownV w5 rfl (.tmp 64) (.tmp 65) _ rfl w3.heap.size 5 1 1 elem_byte _ (out ++ mk).length (ints .u8 (out ++ mk)) [byteRow (.slice A5 sf.length c5) sf] rfl HO6 w5.heap.size A5 sf.length c5 (ints .u8 sf) rfl (seen_second HO6) (by rw [ints_length]; omega) ints_one (by unfold maxLen; rw [List.length_append]; omega) (by rw [List.length_append]; omega) ?_); intro v7 w7 HO7 hb7)
                  | fail)
                go_roundg (ps.length - (k + 1))
                case rel => exact ⟨k + 1, A4, c' - n, M.drop n, (out ++ mk) ++ sf, rfl, by omega, by rw [List.length_drop], by go_num, hMd2, HMd, veil (HsA4w.below hb7 hG3), hz2, veil Hj2.out.symm, by rw [List.length_append, List.length_append]; omega, veil (by rw [intRow_append] at HO7; exact HO7.swap.tail), veil (Hbr5.out.trans hb7)⟩
                case measure => omega
              · have hE1 : E = er := HEs.out.trans (firstE_at HZ.out Hse.out he)
                have hO1 := HOe.out (by rw [hE1]; exact he)
                have HE1 := veil hE1
                have HO1 := veil hO1
                have hbe : (er != 0) = true := by simpa using he
                have hfin := Hbw3.out.trans (Hbr5.out.mono (by omega))
                clear hE1 hO1 he
                go_wp2_with fail
                go_ret2
                exact ⟨_, ret_two rfl (by rw [HE1.out]; rfl), by rw [HO1.out]; exact (Owns.nil hfin.size).fresh _ _, hfin⟩
          · obtain rfl : k = ps.length := by omega
            have hlen1 : ((segsOf ps L).map (eEnc cs syms cs2 syms2)).length ≤ ps.length := by rw [List.length_map, segsOf_length]; omega
            have hlen2 : ((segsOf ps L).map (segF cs syms cs2 syms2)).length ≤ ps.length := by rw [List.length_map, segsOf_length]; omega
            have hz := HZ.out
            rw [List.take_of_length_le hlen1] at hz
            have hE1 : E = 0 := HEs.out.trans ((firstE_zero _).2 hz)
            have hO1 := HOs.out hE1
            have hj := HJ.out
            rw [List.take_of_length_le hlen2] at hj
            rw [← hj] at hO1
            have HE1 := veil hE1
            have HO1 := veil hO1
            have hzr := Hbr.out.size
            have hfin := Hbw3.out.trans (Hbr.out.mono (by omega))
            clear hE1 hO1 hz hj hlen1 hlen2
            go_wp2_with fail
            go_ret2
            exact ⟨_, ret_two rfl (by rw [HE1.out]; rfl), by rw [HO1.out]; exact HOo.out.down (by omega), hfin⟩
      · have hE1 := HE.out.trans (eScan_blk Hrg.out HT0.out hL)
        have hO1 := HOe.out (by rw [hE1]; exact hL)
        have HE1 := veil hE1
        have HO1 := veil hO1
        have hne : (eL L != 0) = true := by simpa using hL
        obtain ⟨er, her⟩ : ∃ er, er = eL L := ⟨_, rfl⟩
        rw [← her] at HE1 hne ⊢
        clear hE1 hO1 hL her
        go_wp2_with fail
        go_ret2
        exact ⟨_, ret_two rfl (by rw [HE1.out]; rfl), by rw [HO1.out]; exact (Owns.nil hbw2.size).fresh _ _, hbw2⟩
    · have hE1 := HE.out.trans (eScan_tab Hrg.out h0)
      have hO1 := HOe.out (by rw [hE1]; exact h0)
      have HE1 := veil hE1
      have HO1 := veil hO1
      have hne : (eTs cs syms cs2 syms2 != 0) = true := by simpa using h0
      obtain ⟨er, her⟩ : ∃ er, er = eTs cs syms cs2 syms2 := ⟨_, rfl⟩
      rw [← her] at HE1 hne ⊢
      clear hE1 hO1 h0 her
      go_wp2_with fail
      go_ret2
      exact ⟨_, ret_two rfl (by rw [HE1.out]; rfl), by rw [HO1.out]; exact (Owns.nil hbw1.size).fresh _ _, hbw1⟩
end Go.Proofs.YtddkhkpdbjjboaaGreat

/- scan.split: its contract. -/
namespace Go.Proofs.YtddkhkpdbjjboaaGreat
open Go.RowKit
set_option linter.unusedVariables false
set_option linter.unusedSimpArgs false
set_option maxRecDepth 100000

theorem zipWith_mem {α β γ : Type} {f : α → β → γ} {xs : List α} {ys : List β} {j : Nat} {x : α} {y : β} (hx : xs[j]? = some x) (hy : ys[j]? = some y) : f x y ∈ List.zipWith f xs ys := by
  have : (List.zipWith f xs ys)[j]? = some (f x y) := by rw [List.getElem?_zipWith, hx, hy]
  exact List.mem_of_getElem? this
set_option maxRecDepth 100000 in
set_option maxHeartbeats 2000000 in
theorem scanSplit_any (cs syms : List Int) (A : Option Addr) (c : Nat) (cs2 syms2 : List Int) (A2 : Option Addr) (c2 G : Nat) (bs : List Int) (A3 : Option Addr) (c3 : Nat) (n every : Int) (w : World)
    (hcs : cs.length = 16) (hn : syms.length ≤ maxLen) (hb : ∀ x ∈ cs, -9223372036854775808 ≤ x ∧ x ≤ 9223372036854775807) (hs : Seen w G A (ints .i64 syms))
    (hcs2 : cs2.length = 16) (hn2 : syms2.length ≤ maxLen) (hb2 : ∀ x ∈ cs2, -9223372036854775808 ≤ x ∧ x ≤ 9223372036854775807) (hs2 : Seen w G A2 (ints .i64 syms2))
    (hs3 : Seen w G A3 (ints .u8 bs)) (hby : ∀ x ∈ bs, 0 ≤ x ∧ x ≤ 255) (hl : bs.length ≤ 1099511627776) (hG : G ≤ w.heap.size) :
    Calls Tryz.prog 12 #[tabsV cs A syms.length c cs2 A2 syms2.length c2, .slice A3 bs.length c3, .int .i64 n, .int .i64 every] w fun e w' => ∃ vs Ap cp Am cm, e = .returned (.tuple #[.slice Ap vs.length cp, .slice Am (headM cs syms cs2 syms2 bs n every).length cm, .int .i64 (eHead cs syms cs2 syms2 bs n every)]) ∧ SeenRows w' w'.heap.size .u8 vs (headP cs syms cs2 syms2 bs n every) ∧ Seen w' w'.heap.size Ap vs ∧ Seen w' w'.heap.size Am (ints .i64 (headM cs syms cs2 syms2 bs n every)) ∧ Below w.heap.size w w' := by
  have h34 : (tabsCells cs A syms.length c cs2 A2 syms2.length c2).length = 34 := by unfold tabsCells; rw [List.length_append, tabCells_length hcs, tabCells_length hcs2]
  have HCk := veil (fun W h1 h2 hG => checkTables_any cs syms A c cs2 syms2 A2 c2 G W hcs hn hb h1 hcs2 hn2 hb2 h2 hG)
  have HSp := veil (fun W h hG => split_any A3 c3 G bs W h hG hl hby)
  have hb0 := below1 w (.cells (tabsCells cs A syms.length c cs2 A2 syms2.length c2).toArray 27)
  have hz0 : (w.alloc (.cells (tabsCells cs A syms.length c cs2 A2 syms2.length c2).toArray 27)).heap.size = w.heap.size + 1 := by simp
  have hr0 := range_new w (tabsCells cs A syms.length c cs2 A2 syms2.length c2) 27
  obtain ⟨E, hE⟩ : ∃ E, E = eHead cs syms cs2 syms2 bs n every := ⟨_, rfl⟩
  obtain ⟨P, hP⟩ : ∃ P, P = headP cs syms cs2 syms2 bs n every := ⟨_, rfl⟩
  obtain ⟨M, hM⟩ : ∃ M, M = headM cs syms cs2 syms2 bs n every := ⟨_, rfl⟩
  rw [← hE, ← hP, ← hM]
  have HPe : Hid (E ≠ 0 → P = [] ∧ M = []) := by
    show _ → _
    intro h
    rw [hP, hM]
    exact ⟨if_neg (by rw [← hE]; exact h), if_neg (by rw [← hE]; exact h)⟩
  have HE := veil hE
  have HP := veil hP
  have HM := veil hM
  have H34 := veil h34
  clear hcs hcs2 hb hb2 hE hP hM h34 hn hn2 hby
  unfold tabsV at HCk ⊢
  generalize tabsCells cs A syms.length c cs2 A2 syms2.length c2 = zs at *
  obtain ⟨W0, hW0⟩ : ∃ W0, W0 = w.alloc (.cells zs.toArray 27) := ⟨_, rfl⟩
  have HW0 := veil hW0
  rw [← hW0] at hb0 hz0 hr0
  clear hW0
  go_enter Tryz.func12, Tryz.ntmps12
  by_cases hrg : every < 0 ∨ 100 < every ∨ n < 0 ∨ 400 < n
  · have hE1 := HE.out.trans (eHead_arg hrg)
    obtain ⟨hP1, hM1⟩ := HPe.out (by rw [hE1]; decide)
    have HE1 := veil hE1
    have HP1 := veil hP1
    have HM1 := veil hM1
    clear hE1 hP1 hM1
    by_cases hev : every < 0 ∨ 100 < every
    · have HOu := veil (isEvery_no every hev W0)
      clear hrg hev
      go_wp2_with fail
      rw [← HW0.out]
      refine HOu.out.mono ?_
      rintro e w2 ⟨rfl, hw2⟩
      rw [hw2]
      go_wp2
      go_ret3
      exact ⟨[], none, 0, none, 0, by rw [HE1.out, HM1.out]; rfl, by rw [HP1.out]; exact SeenRows.nil _ _ _, .inl rfl, by rw [HM1.out]; exact .inl rfl, hb0⟩
    · have HOu := veil (isEvery_yes every hev W0)
      by_cases hn0 : n < 0
      · clear hrg hev
        go_wp2_with fail
        rw [← HW0.out]
        refine HOu.out.mono ?_
        rintro e w2 ⟨rfl, hw2⟩
        rw [hw2]
        go_wp2
        go_ret3
        exact ⟨[], none, 0, none, 0, by rw [HE1.out, HM1.out]; rfl, by rw [HP1.out]; exact SeenRows.nil _ _ _, .inl rfl, by rw [HM1.out]; exact .inl rfl, hb0⟩
      · have hn4 : 400 < n := by omega
        clear hrg hev
        go_wp2_with fail
        rw [← HW0.out]
        refine HOu.out.mono ?_
        rintro e w2 ⟨rfl, hw2⟩
        rw [hw2]
        go_wp2
        go_ret3
        exact ⟨[], none, 0, none, 0, by rw [HE1.out, HM1.out]; rfl, by rw [HP1.out]; exact SeenRows.nil _ _ _, .inl rfl, by rw [HM1.out]; exact .inl rfl, hb0⟩
  · have Hrg := veil hrg
    have HOu := veil (isEvery_yes every (by omega) W0)
    have hn0 : ¬ n < 0 := by omega
    have hn4 : ¬ 400 < n := by omega
    clear hrg
    go_wp2_with fail
    rw [← HW0.out]
    refine HOu.out.mono ?_
    rintro e w2 ⟨rfl, hw2⟩
    have hw2' : w2 = W0 := hw2
    subst w2
    clear HOu HW0
    go_wp2_with (first
      | (refine wpList_load_mid rfl 27 (.tmp 4) rfl w.heap.size 0 rfl zs _ hr0 Tryz.underlying27 rfl (by rw [H34.out]; kernel_rfl) ?_)
      | fail)
    refine (HCk.out _ (hs.below hb0 hG) (hs2.below hb0 hG) (by rw [hz0]; omega)).mono ?_
    rintro e w1 ⟨rfl, hb1⟩
    have hbw1 := hb0.trans (hb1.mono (by rw [hz0]; omega))
    have hz1 := hb1.size
    rw [hz0] at hz1
    clear hr0 hb0 HCk hb1
    by_cases h0 : eTs cs syms cs2 syms2 = 0
    · rw [h0]
      have hE1 := HE.out.trans (eHead_split Hrg.out h0)
      have hPM := head_split (bs := bs) Hrg.out h0
      have hP1 := HP.out.trans hPM.1
      have hM1 := HM.out.trans hPM.2
      have HS := veil (HSp.out w1 (hs3.below hbw1 hG) (by omega))
      rw [← hE1, ← hP1, ← hM1] at HS
      clear hE1 hPM hP1 hM1 h0 HSp
      go_wp2_with fail
      refine HS.out.mono ?_
      rintro e w2 ⟨vs, v, m, rfl, hvl, HO2, hb2⟩
      have hbw2 := hbw1.trans (hb2.mono hbw1.size)
      have hsr := Owns.rows (e := 5) (k := .u8) HO2 hvl (fun j x p hx hp => List.mem_cons_of_mem _ (List.mem_cons_of_mem _ (zipWith_mem (f := byteRow) hx hp)))
      obtain ⟨Ap, cp, hpv, hsp, _, _⟩ := HO2.seen (List.mem_cons_self ..)
      obtain ⟨Am, cm, hmv, hsm, _, _⟩ := HO2.seen (List.mem_cons_of_mem _ (List.mem_cons_self ..))
      obtain rfl : v = .slice Ap vs.length cp := hpv
      obtain rfl : m = .slice Am M.length cm := hmv
      have hsp' : Seen w2 w2.heap.size Ap vs := hsp
      have hsm' : Seen w2 w2.heap.size Am (ints .i64 M) := hsm
      have Hsr := veil hsr
      clear hb2 HS HO2 hsp hsm hsr hvl
      go_wp2_with fail
      go_ret3
      exact ⟨vs, Ap, cp, Am, cm, rfl, Hsr.out, hsp', hsm', hbw2⟩
    · have hE1 := HE.out.trans (eHead_tab Hrg.out h0)
      obtain ⟨hP1, hM1⟩ := HPe.out (by rw [hE1]; exact h0)
      have HE1 := veil hE1
      have HP1 := veil hP1
      have HM1 := veil hM1
      have hne : (eTs cs syms cs2 syms2 != 0) = true := by simpa using h0
      obtain ⟨er, her⟩ : ∃ er, er = eTs cs syms cs2 syms2 := ⟨_, rfl⟩
      rw [← her] at HE1 hne ⊢
      clear hE1 hP1 hM1 h0 her
      go_wp2_with fail
      go_ret3
      exact ⟨[], none, 0, none, 0, by rw [HE1.out, HM1.out]; rfl, by rw [HP1.out]; exact SeenRows.nil _ _ _, .inl rfl, by rw [HM1.out]; exact .inl rfl, hbw1⟩
end Go.Proofs.YtddkhkpdbjjboaaGreat

/- scan.Decode: its contract. -/
namespace Go.Proofs.YtddkhkpdbjjboaaGreat
open Go.RowKit
set_option linter.unusedVariables false
set_option linter.unusedSimpArgs false
set_option maxRecDepth 100000

theorem rowsC_oneD {L : List (List Int)} : ∀ u ∈ rowsC L, u.oneCell' = true := by
  intro u hu
  obtain ⟨r, _, hr⟩ := List.mem_flatMap.1 hu
  exact ints_one u hr
set_option maxRecDepth 100000 in
set_option maxHeartbeats 2000000 in
theorem scanDecode_any : DecSpec := by
  intro cs syms A c cs2 syms2 A2 c2 G bs A3 c3 n every w hTI hby hl hcap3 hs3 hG
  obtain ⟨hcs, hn, hcap, hb, hs, hcs2, hn2, hcap2, hb2, hs2⟩ := hTI
  have h34 : (tabsCells cs A syms.length c cs2 A2 syms2.length c2).length = 34 := by unfold tabsCells; rw [List.length_append, tabCells_length hcs, tabCells_length hcs2]
  have HPi := veil (fun W h1 h2 h3 hG => scanSplit_any cs syms A c cs2 syms2 A2 c2 G bs A3 c3 n every W hcs hn hb h1 hcs2 hn2 hb2 h2 h3 hby (by omega) hG)
  have HDe := veil (fun p A' c' (m : Nat) G' W (h1 : Seen W G' A (ints .i64 syms)) h2 h3 (hp : Bytes p) (hpl : p.length ≤ 1048576) hG' => segDecode_any cs syms A c cs2 syms2 A2 c2 G' p A' c' (m : Int) W hcs hn hb h1 hcs2 hn2 hb2 h2 h3 hp (by omega) hG')
  have HRo := veil (fun (p : List Int) (hp : Bytes p) (m : Int) => oDec_rows (cs := cs) (syms := syms) (cs2 := cs2) (syms2 := syms2) hcs hcs2 hp m)
  have hb0 := below1 w (.cells (tabsCells cs A syms.length c cs2 A2 syms2.length c2).toArray 27)
  have hz0 : (w.alloc (.cells (tabsCells cs A syms.length c cs2 A2 syms2.length c2).toArray 27)).heap.size = w.heap.size + 1 := by simp
  have hTB := Blk.new w (tabsCells cs A syms.length c cs2 A2 syms2.length c2) 27
  have HPB := veil (fun p (h : p ∈ splitP bs) => (⟨splitP_bytes hby h, Nat.le_trans (splitP_in h).1 hl⟩ : Bytes p ∧ p.length ≤ 1048576))
  obtain ⟨E, hE⟩ : ∃ E, E = eScD cs syms cs2 syms2 bs n every := ⟨_, rfl⟩
  obtain ⟨O, hO⟩ : ∃ O, O = oScD cs syms cs2 syms2 bs n every := ⟨_, rfl⟩
  rw [← hE, ← hO]
  have HOe : Hid (E ≠ 0 → O = []) := by show _ → _; intro h; rw [hO]; exact oScD_err (by rw [← hE]; exact h)
  have HE := veil hE
  have HO := veil hO
  have H34 := veil h34
  have Hl := veil hl
  clear hcs hcs2 hb hb2 hE hO h34 hl hn hn2 hcap hcap2 hby
  unfold tabsV at HPi HDe ⊢
  generalize tabsCells cs A syms.length c cs2 A2 syms2.length c2 = zs at *
  have hr0 := hTB.range
  go_enter Tryz.func5, Tryz.ntmps5
  go_wp2_with (first
    | (refine wpList_load_mid rfl 27 (.tmp 4) rfl w.heap.size 0 rfl zs _ hr0 Tryz.underlying27 rfl (by rw [H34.out]; kernel_rfl) ?_)
    | fail)
  refine (HPi.out _ (hs.below hb0 hG) (hs2.below hb0 hG) (hs3.below hb0 hG) (by rw [hz0]; omega)).mono ?_
  rintro e w1 ⟨vs, Ap, cp, Am, cm, rfl, hsr, hsp', hsm', hb1⟩
  have hTB1 := hTB.below hb1 (by rw [hz0]; omega)
  have hbw1 := hb0.trans (hb1.mono (by rw [hz0]; omega))
  have hz1 := hb1.size
  rw [hz0] at hz1
  clear hr0 hb0 HPi hb1 hTB
  by_cases h0 : eHead cs syms cs2 syms2 bs n every = 0
  · have hP1 : headP cs syms cs2 syms2 bs n every = splitP bs := if_pos h0
    have hM1 : headM cs syms cs2 syms2 bs n every = splitM bs := if_pos h0
    rw [h0]
    rw [hP1] at hsr
    rw [hM1] at hsm' ⊢
    obtain ⟨hrg, hT0, hsp0⟩ := eHead_zero h0
    obtain ⟨Ev, hEv, hEv100⟩ : ∃ Ev : Nat, every = (Ev : Int) ∧ Ev ≤ 100 := ⟨every.toNat, by omega, by omega⟩
    obtain ⟨Nn, hNn, hNn400⟩ : ∃ Nn : Nat, n = (Nn : Int) ∧ Nn ≤ 400 := ⟨n.toNat, by omega, by omega⟩
    subst hEv hNn
    have hcnt := (splitP_count hsp0).2
    have hcn1 := (splitP_count hsp0).1
    have HC1 := veil (fun h2 => HE.out.trans (eScD_count (bs := bs) h0 h2))
    have HC2 := veil (fun h2 h3 => HE.out.trans (eScD_mark (bs := bs) h0 h2 h3))
    have HC3 := veil (fun h2 h3 => HE.out.trans (eScD_segs (bs := bs) h0 h2 h3))
    have HC4 : Hid (E = 0 → O = ((((splitP bs).zip (partsN Nn Ev)).map fun x => oDec cs syms cs2 syms2 x.1 x.2).flatten)) := by
      show _ → _
      intro h
      have h9 := HO.out.trans (if_pos (by rw [← HE.out]; exact h))
      rw [Int.toNat_natCast, Int.toNat_natCast] at h9
      exact h9
    unfold eSegs at HC3
    rw [Int.toNat_natCast, Int.toNat_natCast] at HC1 HC2 HC3
    have HPa := veil (sizes_any Nn Ev w1 (by omega) (by omega))
    have hps := partsN_sum Nn Ev
    have hpi := partsN_in Nn Ev
    have hpl := partsN_len Nn Ev
    obtain ⟨ps, hpsd⟩ : ∃ ps, ps = partsN Nn Ev := ⟨_, rfl⟩
    rw [← hpsd] at HC1 HC2 HC3 HC4 HPa hps hpi hpl
    have Hps := veil hps; have Hpi := veil hpi
    have hbl := Hl.out
    have hsrl := hsr.1
    obtain ⟨ms, hms⟩ : ∃ ms, ms = splitM bs := ⟨_, rfl⟩
    obtain ⟨pp, hpp⟩ : ∃ pp, pp = splitP bs := ⟨_, rfl⟩
    rw [← hms] at HC2 HC3 hsm' hcnt hcn1 ⊢
    rw [← hpp] at HC1 HC2 HC3 HC4 HPB hsr hsrl hcn1
    have Hcn1 := veil hcn1
    have Hsrl := veil hsrl
    clear hpsd hps hpi h0 hP1 hM1 hrg hT0 hsp0 HE HO hms hpp hsrl hcn1
    go_wp2_with fail
    refine HPa.out.mono ?_
    rintro e w2 ⟨lv, rfl, HOp, hb2⟩
    obtain ⟨Al, cl, hlv, hsl, _, _⟩ := HOp.seen (List.mem_cons_self ..)
    have hvv : lv = .slice Al ps.length cl := by
      have h9 : lv = .slice Al (ps.map Int.ofNat).length cl := hlv
      rw [List.length_map] at h9; exact h9
    subst lv
    have hz2 := hb2.size
    have hbw2 := hbw1.trans (hb2.mono hbw1.size)
    have Hsl : Hid (Seen w2 w2.heap.size Al (ints .i64 (ps.map Int.ofNat))) := hsl
    have HTB := veil (hTB1.below hb2 (by omega))
    have Hsp := veil ((hsp'.below hb2 (Nat.le_refl _)).up hz2)
    have Hsm := veil ((hsm'.below hb2 (Nat.le_refl _)).up hz2)
    have Hsr := veil ((hsr.below hb2 (Nat.le_refl _)).up hz2)
    have Hs := veil ((hs.below hbw2 hG).up (show G ≤ w2.heap.size by omega)); have Hs2 := veil ((hs2.below hbw2 hG).up (show G ≤ w2.heap.size by omega))
    have Hbw2 := veil hbw2
    have hT2 : w.heap.size < w2.heap.size := by omega
    have hG2 : G ≤ w2.heap.size := by omega
    have hvl : vs.length ≤ 1048577 := by have h1 := Hsrl.out; have h2 := Hcn1.out; omega
    clear HPa HOp hlv hsl hb2 hTB1 hsp' hsm' hsr hs hs2 hs3 hbw1 hbw2 hz1
    by_cases hcn : ps.length = vs.length
    · have hne : ((vs.length : Int) != (ps.length : Int)) = false := by simp; omega
      have HM0 : Hid (∀ (j : Nat) (m : Int), j < 0 → ms[j]? = some m → m = 208 + ((j % 8 : Nat) : Int)) := by show ∀ (j : Nat) (m : Int), _; intro j m h; omega
      have Hcn := veil hcn
      clear hcn
      go_wp2_with fail
      go_loopg [14, 15, 43] ms.length (fun gk kv mv iv wr => ∃ k : Nat, gk = ms.length - k ∧ k ≤ ms.length ∧ iv = .int .i64 (k : Int) ∧ Hid (∀ (j : Nat) (m : Int), j < k → ms[j]? = some m → m = 208 + ((j % 8 : Nat) : Int)) ∧ w2 = wr)
      case atStart => exact ⟨0, rfl, Nat.zero_le _, rfl, HM0, rfl⟩
      case round =>
        clear HM0
        obtain ⟨k, rfl, hk, rfl, HMk, rfl⟩ := hrel
        by_cases hlt : k < ms.length
        · have hltz : (k : Int) < (ms.length : Int) := by omega
          obtain ⟨gm, om, x, rfl, hgm, hx, hcx⟩ := Hsm.out.int hlt
          obtain ⟨q, hq⟩ : ∃ q : Nat, q = k % 8 := ⟨_, rfl⟩
          have hq8 : q < 8 := by omega
          have hqz : (k : Int) % 8 = (q : Int) := by omega
          have Hx := veil hx
          have HMa := veil (marker_any (k : Int) q (by omega) (by omega) (by omega) w2)
          by_cases hxq : x = 208 + (q : Int)
          · have hbx : (x != 208 + (q : Int)) = false := by simpa using hxq
            have HM2 : Hid (∀ (j : Nat) (m : Int), j < k + 1 → ms[j]? = some m → m = 208 + ((j % 8 : Nat) : Int)) := by
              show ∀ (j : Nat) (m : Int), _
              intro j m hj hm
              by_cases hjk : j < k
              · exact HMk.out j m hjk hm
              · obtain rfl : j = k := by omega
                rw [Hx.out] at hm
                injection hm with hm
                rw [← hm, hxq, hq]
            subst hxq
            clear hx hq hbx
            go_wp2_with fail
            refine HMa.out.mono ?_
            rintro e w9 ⟨rfl, hw9⟩
            have hw9' : w9 = w2 := hw9
            subst w9
            clear HMa
            go_wp2_with fail
            go_roundg (ms.length - (k + 1))
            case rel => exact ⟨k + 1, rfl, by omega, by go_num, HM2, rfl⟩
            case measure => omega
          · have hbx : (x != 208 + (q : Int)) = true := by simpa using hxq
            have hE1 := HC2.out (by rw [← Hsrl.out]; exact Hcn.out) (marksB_bad Hx.out (by rw [← hq]; exact hxq))
            have hO1 := HOe.out (by rw [hE1]; decide)
            have HE1 := veil hE1
            have HO1 := veil hO1
            clear hE1 hO1 hx hq hxq
            go_wp2_with fail
            refine HMa.out.mono ?_
            rintro e w9 ⟨rfl, hw9⟩
            have hw9' : w9 = w2 := hw9
            subst w9
            clear HMa
            go_wp2_with fail
            go_ret2
            exact ⟨_, ret_two rfl (by rw [HE1.out]; rfl), by rw [HO1.out]; exact (Owns.nil Hbw2.out.size).fresh _ _, Hbw2.out⟩
        · obtain rfl : k = ms.length := by omega
          have hmB : marksB ms = true := (marksB_iff ms).2 fun j m hm => HMk.out j m (List.getElem?_eq_some_iff.1 hm).1 hm
          have HEs := veil (HC3.out (by rw [← Hsrl.out]; exact Hcn.out) hmB)
          have hzl : (pp.zip ps).length = ps.length := by rw [List.length_zip, ← Hsrl.out, ← Hcn.out]; omega
          have Hzl := veil hzl
          have HZ0 : Hid (∀ x ∈ (((pp.zip ps).map fun x => eDec cs syms cs2 syms2 x.1 x.2).take 0), x = 0) := by show ∀ x ∈ _, _; simp
          have HA0 : Hid (([] : List (List Int)) = (((pp.zip ps).map fun x => oDec cs syms cs2 syms2 x.1 x.2).take 0).flatten) := by show _ = _; simp
          obtain ⟨cur, hmk, hcur⟩ := run_make_blocks Nn (by omega) w2
          have hO0 : Owns w2.heap.size [blkRow (.slice (some ⟨w2.heap.size, 0, none⟩) 0 Nn) []] (w2.alloc (.cells cur 37)) := (Owns.start w2).made 37 64 cur Nn (by unfold maxLen; omega) hcur
          have HO0 := veil hO0
          have hbr0 : Below w2.heap.size w2 (w2.alloc (.cells cur 37)) := below1 w2 (.cells cur 37)
          have Hbr0 := veil hbr0
          clear hmB HMk HC1 HC2 HC3 Hsm hzl hO0 hbr0 hlt hcur
          go_wp2_with fail
          go_loopg [16, 17, 18, 19, 20, 57] ps.length (fun gk ov kv nv bv ev iv wr => ∃ (k : Nat) (acc : List (List Int)), gk = ps.length - k ∧ k ≤ ps.length ∧ iv = .int .i64 (k : Int) ∧ Hid (∀ x ∈ (((pp.zip ps).map fun x => eDec cs syms cs2 syms2 x.1 x.2).take k), x = 0) ∧ Hid (acc = (((pp.zip ps).map fun x => oDec cs syms cs2 syms2 x.1 x.2).take k).flatten) ∧ acc.length = (ps.take k).sum ∧ Hid (Owns w2.heap.size [blkRow ov acc] wr) ∧ Hid (Below w2.heap.size w2 wr))
          case atStart => exact ⟨0, [], rfl, Nat.zero_le _, rfl, HZ0, HA0, by simp, HO0, Hbr0⟩
          case round =>
            clear HZ0 HA0 HO0 Hbr0
            obtain ⟨k, acc, rfl, hk, rfl, HZ, HA, hal, HOo, Hbr⟩ := hrel
            obtain ⟨Wr, hWr⟩ : ∃ Wr, Wr = wr := ⟨_, rfl⟩
            subst hWr
            have hzr := Hbr.out.size
            by_cases hlt : k < ps.length
            · have hltz : (k : Int) < (ps.length : Int) := by omega
              obtain ⟨gl, ol, x, rfl, hgl, hx, hcx⟩ := (Hsl.out.below Hbr.out (Nat.le_refl _)).int (k := k) (by rw [List.length_map]; exact hlt)
              obtain ⟨m, hm⟩ := some_at hlt
              obtain rfl : x = (m : Int) := by rw [List.getElem?_map, hm] at hx; simpa using hx.symm
              have hm400 := Hpi.out m (List.mem_of_getElem? hm)
              obtain ⟨A5, c5, p, hv5, hp5, hs5, hl5⟩ := (Hsr.out.below Hbr.out (Nat.le_refl _)).at (j := k) (by have h1 := Hsrl.out; have h2 := Hcn.out; omega)
              obtain ⟨gp, op, rfl, hgp, hcp⟩ := (Hsp.out.below Hbr.out (Nat.le_refl _)).cell hv5
              obtain ⟨hpb, hpl5⟩ := HPB.out p (List.mem_of_getElem? hp5)
              have hze : ((pp.zip ps).map fun x => eDec cs syms cs2 syms2 x.1 x.2)[k]? = some (eDec cs syms cs2 syms2 p m) := by rw [List.getElem?_map, zip_at hp5 hm]; rfl
              have hzo : ((pp.zip ps).map fun x => oDec cs syms cs2 syms2 x.1 x.2)[k]? = some (oDec cs syms cs2 syms2 p m) := by rw [List.getElem?_map, zip_at hp5 hm]; rfl
              obtain ⟨hrow, hcount⟩ := HRo.out p hpb (m : Int)
              have hbd : Below w2.heap.size w2 Wr.drew := Hbr.out.drew
              have hC := HDe.out p A5 c5 m w2.heap.size Wr.drew (Hs.out.below hbd (Nat.le_refl _)) (Hs2.out.below hbd (Nat.le_refl _)) (hs5.below (Below.refl w2.heap.size Wr).drew (Nat.le_refl _)) hpb hpl5 (by show w2.heap.size ≤ Wr.heap.size; omega)
              have hTBr := HTB.out.below Hbr.out hT2
              have hst : (ps.take (k + 1)).sum = (ps.take k).sum + m := by rw [fc_snoc hm]; simp
              have hsk := take_sum_le ps (k + 1)
              rw [Hps.out] at hsk
              obtain ⟨er, her⟩ : ∃ er, er = eDec cs syms cs2 syms2 p m := ⟨_, rfl⟩
              obtain ⟨ob, hob⟩ : ∃ ob, ob = oDec cs syms cs2 syms2 p m := ⟨_, rfl⟩
              rw [← her] at hC hze hcount
              rw [← hob] at hC hzo hrow hcount
              have HC := veil hC; have Hze := veil hze; have Hzo := veil hzo; have Hrow := veil hrow; have Hcount := veil hcount
              have Hst := veil hst; have Hsk := veil hsk
              clear hC hze hzo hrow hcount her hob hx hm hv5 hp5 hs5 hl5 hpb hpl5 hbd hst hsk
              go_upto_region 17 with fail
              refine wp_region_held_drew (S := fun w' => Blk w' w.heap.size zs 27 ∧ w'.cell? ⟨gp, op + k, none⟩ = some (.slice A5 p.length c5)) (by kernel_rfl) ⟨hTBr, hcp⟩ (fun hHeld0 => ?_)
              refine take_load 0 63 27 (.tmp 4) w.heap.size 0 zs _ rfl rfl (by kernel_rfl) (by kernel_rfl) (by kernel_rfl) (fun _ _ _ h => h) rfl rfl rfl (fun w' h => h.1.range) Tryz.underlying27 rfl (by rw [H34.out]; kernel_rfl) hHeld0 rfl ?_
              refine take_pure 1 64 (.slice (some ⟨gp, op, none⟩) vs.length cp) _ rfl rfl (by kernel_rfl) (by kernel_rfl) (by kernel_rfl) (fun _ _ _ h => h) rfl (fun w' hS => by go_simp) hHeld0 rfl ?_
              refine take_pure 2 65 (.int .i64 (k : Int)) _ rfl rfl (by kernel_rfl) (by kernel_rfl) (by kernel_rfl) (fun _ _ _ h => h) rfl (fun w' hS => by go_simp) hHeld0 rfl ?_
              have hkv : (k : Int) < (vs.length : Int) := by have := Hcn.out; omega
              refine take_pure 3 66 (.pointer (some ⟨gp, op + k, none⟩)) _ rfl rfl (by kernel_rfl) (by kernel_rfl) (by kernel_rfl) (fun _ _ _ h => h) rfl (fun w' hS => by go_simp) hHeld0 rfl ?_
              refine take_pure 4 67 (.slice A5 p.length c5) _ rfl rfl (by kernel_rfl) (by kernel_rfl) (by kernel_rfl) (fun _ _ _ h => h) rfl (fun w' hS => by have hc9 := hS.2; go_simp) hHeld0 rfl ?_
              refine take_pure 5 68 (.int .i64 (m : Int)) _ rfl rfl (by kernel_rfl) (by kernel_rfl) (by kernel_rfl) (fun _ _ _ h => h) rfl (fun w' hS => by go_simp) hHeld0 rfl ?_
              refine wpAnyH_ready (rs := [6]) (by kernel_rfl) (by simp) ?_
              refine AllReadyH.cons rfl (fun K hK => ?_) AllReadyH.nil
              go_simp
              refine HC.out.mono ?_
              rintro e w5 ⟨v5, rfl, HO5, hb5⟩
              have hb5' : Below Wr.heap.size Wr w5 := below_of_drew hb5
              refine hK.out _ _ ⟨hHeld0.1.below hb5 hHeld0.1.lt, (hb5.cell (by show gp < Wr.heap.size; omega)).trans hHeld0.2⟩ (fun hHeld1 => ?_)
              clear hK K
              refine take_pure 7 62 (.tuple #[v5, .int .i64 er]) _ rfl rfl (by kernel_rfl) (by kernel_rfl) (by kernel_rfl) (fun _ _ _ h => h) rfl (fun w' hS => by go_simp) hHeld1 rfl ?_
              refine take_pure 8 70 v5 _ rfl rfl (by kernel_rfl) (by kernel_rfl) (by kernel_rfl) (fun _ _ _ h => h) rfl (fun w' hS => by go_simp) hHeld1 rfl ?_
              refine take_pure 9 71 (.int .i64 er) _ rfl rfl (by kernel_rfl) (by kernel_rfl) (by kernel_rfl) (fun _ _ _ h => h) rfl (fun w' hS => by go_simp) hHeld1 rfl ?_
              refine take_pure 10 19 v5 _ rfl rfl (by kernel_rfl) (by kernel_rfl) (by kernel_rfl) (fun _ _ _ h => h) rfl (fun w' hS => by go_simp) hHeld1 rfl ?_
              refine take_pure 11 20 (.int .i64 er) _ rfl rfl (by kernel_rfl) (by kernel_rfl) (by kernel_rfl) (fun _ _ _ h => h) rfl (fun w' hS => by go_simp) hHeld1 rfl ?_
              refine wpAnyH_done (by kernel_rfl) ?_ _
              obtain ⟨A6, c6, hv6, hs6, hc6, hm6⟩ := HO5.seen (List.mem_cons_self ..)
              obtain rfl : v5 = .slice A6 ob.length c6 := hv6
              have hz5 := hb5'.size
              have Hbr5 := veil (Hbr.out.trans (hb5'.mono hzr))
              have HO6 := HOo.out.below hb5'
              have Hs6 := veil hs6
              clear HO5 hb5 hb5' hs6 hHeld0 hHeld1 hTBr HC HOo hcp hcx
              by_cases he : er = 0
              · subst he
                have hoc := Hcount.out rfl
                have hoc' : ob.length = m := by omega
                have hrl := rowsC_length Hrow.out
                have Hrl := veil hrl
                have HZ2 : Hid (∀ x ∈ (((pp.zip ps).map fun x => eDec cs syms cs2 syms2 x.1 x.2).take (k + 1)), x = 0) := mem_snoc Hze.out HZ.out rfl
                have HA2 : Hid (acc ++ ob = (((pp.zip ps).map fun x => oDec cs syms cs2 syms2 x.1 x.2).take (k + 1)).flatten) := by show _ = _; rw [take_snoc Hzo.out, List.flatten_append, ← HA.out]; simp
                have hsum := Hst.out
                have hsk := Hsk.out
                have hal2 : (acc ++ ob).length = (ps.take (k + 1)).sum := by rw [List.length_append]; omega
                have Hal2 := veil hal2
                have hab : acc.length + ob.length ≤ 400 := by omega
                clear hoc hrl hsum hsk hal2 hal hoc'
                go_wp2_with (first
                  | (at_builtin; go_loud (refine wpList_ownV w5 rfl (.tmp 75) (.tmp 76) _ rfl w2.heap.size 37 64 512 elem_blk u16 acc.length (rowsC acc) [] rfl HO6 w5.heap.size A6 ob.length c6 (rowsC ob) rfl Hs6.out Hrl.out rowsC_oneD (by unfold maxLen; omega) (by omega) ?_); intro v7 w7 HO7 hb7)
                  | fail)
                go_roundg (ps.length - (k + 1))
                case rel => exact ⟨k + 1, acc ++ ob, rfl, by omega, by go_num, HZ2, HA2, Hal2.out, veil (by rw [blkRow_append] at HO7; exact HO7), veil (Hbr5.out.trans hb7)⟩
                case measure => omega
              · have hE1 : E = er := HEs.out.trans (firstE_at HZ.out Hze.out he)
                have hO1 := HOe.out (by rw [hE1]; exact he)
                have HE1 := veil hE1
                have HO1 := veil hO1
                have hbe : (er != 0) = true := by simpa using he
                have hfin := Hbw2.out.trans (Hbr5.out.mono (by omega))
                clear hE1 hO1 he
                go_wp2_with fail
                go_ret2
                exact ⟨_, ret_two rfl (by rw [HE1.out]; rfl), by rw [HO1.out]; exact (Owns.nil hfin.size).fresh _ _, hfin⟩
            · obtain rfl : k = ps.length := by omega
              have hz := HZ.out
              rw [List.take_of_length_le (by rw [List.length_map, Hzl.out]; omega)] at hz
              have hE1 : E = 0 := HEs.out.trans ((firstE_zero _).2 hz)
              have hO1 := HC4.out hE1
              have hj := HA.out
              rw [List.take_of_length_le (by rw [List.length_map, Hzl.out]; omega)] at hj
              rw [← hj] at hO1
              have HE1 := veil hE1
              have HO1 := veil hO1
              have hfin := Hbw2.out.trans (Hbr.out.mono (by omega))
              clear hE1 hO1 hz hj
              go_wp2_with fail
              go_ret2
              exact ⟨_, ret_two rfl (by rw [HE1.out]; rfl), by rw [HO1.out]; exact HOo.out.down (by omega), hfin⟩
    · have hE1 := HC1.out (by rw [← Hsrl.out]; exact hcn)
      have hO1 := HOe.out (by rw [hE1]; decide)
      have HE1 := veil hE1
      have HO1 := veil hO1
      have hne : ((vs.length : Int) != (ps.length : Int)) = true := by simp; omega
      clear hE1 hO1
      go_wp2_with fail
      go_ret2
      exact ⟨_, ret_two rfl (by rw [HE1.out]; rfl), by rw [HO1.out]; exact (Owns.nil Hbw2.out.size).fresh _ _, Hbw2.out⟩
  · have hE1 := HE.out.trans (eScD_head h0)
    have hO1 := HOe.out (by rw [hE1]; exact h0)
    have HE1 := veil hE1
    have HO1 := veil hO1
    have hne : (eHead cs syms cs2 syms2 bs n every != 0) = true := by simpa using h0
    obtain ⟨er, her⟩ : ∃ er, er = eHead cs syms cs2 syms2 bs n every := ⟨_, rfl⟩
    rw [← her] at HE1 hne ⊢
    clear hE1 hO1 h0 her hsm' hsr
    generalize (headM cs syms cs2 syms2 bs n every).length = ml at *
    go_wp2_with fail
    go_ret2
    exact ⟨_, ret_two rfl (by rw [HE1.out]; rfl), by rw [HO1.out]; exact (Owns.nil hbw1.size).fresh _ _, hbw1⟩
end Go.Proofs.YtddkhkpdbjjboaaGreat

/- From the form's reading of a slice of structs or arrays of integers to the words of Mem. -/
namespace Go.Proofs.YtddkhkpdbjjboaaGreat
open Go.RowKit Go.ChangeShapes Go.WideShapes Go.ChangeAt Go.Deep
set_option linter.unusedVariables false
set_option linter.unusedSimpArgs false
set_option maxRecDepth 100000

section
variable {H : Type} {enc : TypeId × Value → H}
end
end Go.Proofs.YtddkhkpdbjjboaaGreat
