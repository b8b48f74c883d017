/- Texts shared by the claims of this seat, in one. -/
import Derived.Test.YtbboakdfnjjddaaBd5
import Derived.Test.YtbboakdfnjjddaaBd2
import Derived.Test.YtbboakdfnjjddaaBd1
import Derived.Test.YtbboakdfnjjddaaChecked
import Derived.Lib.OthersKept
import Derived.Test.YtbboakdfnjjddaaBd4
/- table.field, table.bySymbol, table.byCodeword: their contracts. -/
namespace Go.Proofs.Ytbboakdfnjjddaa
open Go.RowKit
set_option linter.unusedVariables false
set_option linter.unusedSimpArgs false
set_option maxRecDepth 100000

theorem World.size_alloc' (w : World) (o : Obj) : (w.alloc o).heap.size = w.heap.size + 1 := by simp
theorem cell_far {w w' : World} {b g o : Nat} {v : Value} (h : w.grownBy w' (some b)) (hne : g ≠ b) (hc : w.cell? ⟨g, o, none⟩ = some v) : w'.cell? ⟨g, o, none⟩ = some v := by
  have hlt := World.block_lt_of_cell? w _ hc
  have := h.block g hlt (by simpa using hne)
  simp only [World.cell?] at hc ⊢
  rw [this]; exact hc
theorem field_any (s n c : Int) (w : World) : Calls Try.prog 62 #[.agg #[.int .i64 s, .int .i64 n, .int .i64 c]] w fun e w' => e = .returned (fv (n, c)) ∧ Below w.heap.size w w' := by
  go_enter Try.func62, Try.ntmps62
  go_wp2
  exact bodyPost_ret (v := fv (n, c)) (results_cell_row rfl _ _ (w.heap.size + 1) 69 #[.int .i64 n, .int .i64 c] (0, 0) _ rfl (by rw [← World.size_alloc' w (.cells #[.int .i64 s, .int .i64 n, .int .i64 c] 122)]; exact heap_alloc_new _ _) Try.underlying69 rfl (by kernel_rfl)) rfl ⟨rfl, below2 _ _ _⟩

abbrev fi (t : Int × Nat × Nat) : Int × Int := ((t.2.1 : Int), (t.2.2 : Int))
def symGo (ws : List (Int × Nat × Nat)) : (Int → Option (Int × Int)) × Nat := ws.foldl (fun st t => (upd st.1 t.1 (fi t), if (st.1 t.1).isSome then st.2 else st.2 + 1)) (fun _ => none, 0)
def symF (ws : List (Int × Nat × Nat)) : Int → Option (Int × Int) := (symGo ws).1
def symS (ws : List (Int × Nat × Nat)) : Nat := (symGo ws).2
theorem symF_snoc (ws : List (Int × Nat × Nat)) (t : Int × Nat × Nat) : symF (ws ++ [t]) = upd (symF ws) t.1 (fi t) := by simp [symF, symGo]
theorem symS_snoc (ws : List (Int × Nat × Nat)) (t : Int × Nat × Nat) : symS (ws ++ [t]) = if (symF ws t.1).isSome then symS ws else symS ws + 1 := by unfold symS symF symGo; rw [List.foldl_append]; rfl
def codeF (ws : List (Int × Nat × Nat)) : Int × Int → Option Int := ws.foldl (fun f t => upd f (fi t) t.1) (fun _ => none)
theorem codeF_snoc (ws : List (Int × Nat × Nat)) (t : Int × Nat × Nat) : codeF (ws ++ [t]) = upd (codeF ws) (fi t) t.1 := by simp [codeF]

theorem make_map (n : Nat) (w : World) : (Instr.makeMap 62 (some (.int .i64 (n : Int)))).run Try.prog w = .ok (.map (some w.heap.size)) (w.alloc (.map #[] 0)) := by
  simp [Instr.makeMap, run_underlying Try.underlying62, asInt, newObj]
  rfl
set_option maxRecDepth 100000 in
set_option maxHeartbeats 2000000 in
theorem bySymbol_any (A : Option Addr) (c G : Nat) (ws : List (Int × Nat × Nat)) (w : World) (hs : Seen w G A (tripleCells ws)) (hG : G ≤ w.heap.size) (hl : ws.length ≤ 1048576) (hwf : ∀ t ∈ ws, WF t.1) :
    Calls Try.prog 56 #[.slice A ws.length c] w fun e w' => ∃ b, e = .returned (.map (some b)) ∧ w.heap.size ≤ b ∧ MapF w' b ws.length (symF ws) (symS ws) ∧ Below w.heap.size w w' := by
  have hmm := make_map ws.length w
  have Hwf := veil hwf; clear hwf
  go_enter Try.func56, Try.ntmps56
  go_wp2_with fail
  go_loopg [5, 11] ws.length (fun gk p i wr => ∃ k : Nat, gk = ws.length - k ∧ k ≤ ws.length ∧ i = .int .i64 k ∧ MapF wr w.heap.size k (symF (ws.take k)) (symS (ws.take k)) ∧ Below w.heap.size w wr)
  case atStart => exact ⟨0, rfl, Nat.zero_le _, rfl, MapF.made w, below1 _ _⟩
  case round =>
    obtain ⟨k, rfl, hk, rfl, HM, hbel⟩ := hrel
    by_cases hlt : k < ws.length
    · obtain ⟨g, o, s, n, cd, rfl, hg, hx, h1, h2, h3⟩ := hs.triple hlt
      have hz := hbel.size
      rw [← hbel.cell (by simp; omega)] at h1 h2 h3
      have Hx := veil hx; clear hx
      go_wp2_with fail
      have hlen : k < maxLen := by unfold maxLen; omega
      have hwx : WF s := Hwf.out _ (List.mem_of_getElem? Hx.out)
      have Hwx := veil hwx; clear hwx
      have hne : wr.heap.size ≠ w.heap.size := by have := HM.lt; omega
      have HM2 := HM.below (below1 wr (Obj.cells #[Value.int IntKind.i64 s, Value.int IntKind.i64 (n : Int), Value.int IntKind.i64 (cd : Int)] 122)) HM.lt
      have hbel2 := hbel.trans ((below1 wr (Obj.cells #[Value.int IntKind.i64 s, Value.int IntKind.i64 (n : Int), Value.int IntKind.i64 (cd : Int)] 122)).mono hz)
      have c0 : (wr.alloc (Obj.cells #[Value.int IntKind.i64 s, Value.int IntKind.i64 (n : Int), Value.int IntKind.i64 (cd : Int)] 122)).cell? ⟨wr.heap.size, 0, none⟩ = some (.int .i64 s) := by simp
      have c1 : (wr.alloc (Obj.cells #[Value.int IntKind.i64 s, Value.int IntKind.i64 (n : Int), Value.int IntKind.i64 (cd : Int)] 122)).cell? ⟨wr.heap.size, 1, none⟩ = some (.int .i64 (n : Int)) := by simp
      have c2 : (wr.alloc (Obj.cells #[Value.int IntKind.i64 s, Value.int IntKind.i64 (n : Int), Value.int IntKind.i64 (cd : Int)] 122)).cell? ⟨wr.heap.size, 2, none⟩ = some (.int .i64 (cd : Int)) := by simp
      have hsz : wr.heap.size < (wr.alloc (Obj.cells #[Value.int IntKind.i64 s, Value.int IntKind.i64 (n : Int), Value.int IntKind.i64 (cd : Int)] 122)).heap.size := by simp
      generalize wr.alloc (Obj.cells #[Value.int IntKind.i64 s, Value.int IntKind.i64 (n : Int), Value.int IntKind.i64 (cd : Int)] 122) = W at *
      clear h1 h2 h3 HM hbel hs
      generalize wr.heap.size = B at *
      go_region_held3 (fun w' => w'.cell? ⟨B, 0, none⟩ = some (.int .i64 s) ∧ w'.cell? ⟨B, 1, none⟩ = some (.int .i64 (n : Int)) ∧ w'.cell? ⟨B, 2, none⟩ = some (.int .i64 (cd : Int)))
        (first
          | go_keep
          | (go_split_ands
             refine ⟨?_, ?_, ?_⟩
             · (first | (refine (hb1.cell hsz).trans ?_; assumption) | (refine cell_far hgr2 hne ?_; assumption))
             · (first | (refine (hb1.cell hsz).trans ?_; assumption) | (refine cell_far hgr2 hne ?_; assumption))
             · (first | (refine (hb1.cell hsz).trans ?_; assumption) | (refine cell_far hgr2 hne ?_; assumption))))
        (first
          | (go_at_call 62; refine (field_any s n cd _).mono ?_; rintro e w1 ⟨rfl, hb1⟩; obtain ⟨w2, hup, HM3, hgr2⟩ := (HM2.below (below_of_drew hb1) HM2.lt).store hlen Hwx.out ((n : Int), (cd : Int)))
          | fail)
      have hbel3 : Below w.heap.size w w2 := (hbel2.trans ((below_of_drew hb1).mono hbel2.size)).grown hgr2 (Nat.le_trans hbel2.size hb1.size) (fun j hj => by injection hj with hj; omega)
      have HM4 : MapF w2 w.heap.size (k + 1) (symF (ws.take (k + 1))) (symS (ws.take (k + 1))) := by
        rw [take_snoc Hx.out, symF_snoc, symS_snoc]; exact HM3
      clear HM2 HM3 hup hbel2 hb1 hgr2
      go_wp2_with fail
      go_roundg (ws.length - (k + 1))
      case rel => exact ⟨k + 1, rfl, by omega, by go_num, HM4, hbel3⟩
      case measure => omega
    · obtain rfl : k = ws.length := by omega
      rw [List.take_length] at HM
      go_wp2
      go_ret
      exact ⟨_, rfl, Nat.le_refl _, HM, hbel⟩
end Go.Proofs.Ytbboakdfnjjddaa

/- table.Check and table.Words: their contracts. -/
namespace Go.Proofs.Ytbboakdfnjjddaa
open Go.RowKit
set_option linter.unusedVariables false
set_option linter.unusedSimpArgs false
set_option maxRecDepth 100000

def nats (cs : List Int) : List Nat := cs.map Int.toNat
theorem nats_length (cs : List Int) : (nats cs).length = cs.length := by simp [nats]
theorem natI_nats {cs : List Int} (h : ∀ x ∈ cs, 0 ≤ x) : natI (nats cs) = cs := by
  unfold natI nats
  rw [List.map_map]
  conv => rhs; rw [← List.map_id cs]
  refine List.map_congr_left fun x hx => ?_
  have := h x hx
  simp; omega
theorem nats_sum {cs : List Int} (h : ∀ x ∈ cs, 0 ≤ x) : ((nats cs).sum : Int) = sumW cs := by
  induction cs with
  | nil => rfl
  | cons x l ih =>
    have h1 := ih fun y hy => h y (by simp [hy])
    have h2 := h x (by simp)
    simp [nats, sumW] at h1 ⊢
    omega
def SymOk (syms : List Int) : Prop := ∀ s ∈ syms, 0 ≤ s ∧ s ≤ 255
instance (syms : List Int) : Decidable (SymOk syms) := by unfold SymOk; infer_instance
/-- What Check says. -/
def checkErr (cs syms : List Int) : Int :=
  if Good cs syms.length then if SymOk syms then if (codes (nats cs)).isSome = true ∧ syms.Nodup then 0 else 4 else 1 else 4
theorem checkErr_form {cs syms : List Int} (h : ¬ Good cs syms.length) : checkErr cs syms = 4 := by unfold checkErr; rw [if_neg h]
theorem checkErr_arg {cs syms : List Int} (h : Good cs syms.length) (h2 : ¬ SymOk syms) : checkErr cs syms = 1 := by unfold checkErr; rw [if_pos h, if_neg h2]
theorem checkErr_bad {cs syms : List Int} (h : Good cs syms.length) (h2 : SymOk syms) (h3 : ¬ ((codes (nats cs)).isSome = true ∧ syms.Nodup)) : checkErr cs syms = 4 := by unfold checkErr; rw [if_pos h, if_pos h2, if_neg h3]
theorem checkErr_ok {cs syms : List Int} (h : Good cs syms.length) (h2 : SymOk syms) (h3 : (codes (nats cs)).isSome = true) (h4 : syms.Nodup) : checkErr cs syms = 0 := by unfold checkErr; rw [if_pos h, if_pos h2, if_pos ⟨h3, h4⟩]
theorem checkErr_zero {cs syms : List Int} (h : checkErr cs syms = 0) : Good cs syms.length ∧ SymOk syms ∧ (codes (nats cs)).isSome = true ∧ syms.Nodup := by
  unfold checkErr at h
  split at h
  · rename_i h1
    split at h
    · rename_i h2
      split at h
      · rename_i h3
        exact ⟨h1, h2, h3.1, h3.2⟩
      · cases h
    · cases h
  · cases h
theorem checkErr_range (cs syms : List Int) : 0 ≤ checkErr cs syms ∧ checkErr cs syms ≤ 4 := by
  unfold checkErr
  split
  · split
    · split <;> decide
    · decide
  · decide

/-! ### how many symbols a map of them has -/
theorem snoc_ind {α : Type} {p : List α → Prop} (h0 : p []) (h1 : ∀ l a, p l → p (l ++ [a])) (l : List α) : p l := by
  have key : ∀ n (l : List α), l.length = n → p l := by
    intro n
    induction n with
    | zero => intro l h; rw [List.length_eq_zero_iff.1 h]; exact h0
    | succ n ih =>
      intro l h
      obtain ⟨a, b, rfl⟩ := list_snoc l (by intro e; rw [e] at h; cases h)
      exact h1 a b (ih a (by simp at h; omega))
  exact key _ l rfl
theorem symF_some (ws : List (Int × Nat × Nat)) (x : Int) : (symF ws x).isSome = true ↔ x ∈ ws.map (·.1) := by
  induction ws using snoc_ind with
  | h0 => simp [symF, symGo]
  | h1 ws t ih =>
    rw [symF_snoc]
    unfold upd
    by_cases e : x = t.1
    · subst e; simp
    · rw [if_neg e, ih]; simp [e]
theorem symS_nodup (ws : List (Int × Nat × Nat)) : symS ws ≤ ws.length ∧ (symS ws = ws.length ↔ (ws.map (·.1)).Nodup) := by
  induction ws using snoc_ind with
  | h0 => simp [symS, symGo]
  | h1 ws t ih =>
    rw [symS_snoc]
    by_cases h : (symF ws t.1).isSome = true
    · rw [if_pos h]
      have h2 := (symF_some ws t.1).1 h
      refine ⟨by simp; omega, ⟨fun e => by simp at e; omega, fun e => ?_⟩⟩
      rw [List.map_append, List.nodup_append] at e
      exact absurd rfl (e.2.2 _ h2 t.1 (by simp))
    · rw [if_neg h]
      have h2 : t.1 ∉ ws.map (·.1) := fun e => h ((symF_some ws t.1).2 e)
      refine ⟨by simp; omega, ?_⟩
      rw [List.map_append, List.nodup_append, List.length_append, ← ih.2]
      simp only [List.length_cons, List.length_nil, Nat.add_right_cancel_iff]
      refine ⟨fun e => ⟨by omega, by simp, fun a ha b hb => ?_⟩, fun e => by omega⟩
      simp at hb
      subst hb
      intro e2
      subst e2
      exact h2 ha
/-- What a good table gives. -/
structure Fine (cs syms : List Int) (l : List (Nat × Nat)) : Prop where
  good : Good cs syms.length
  ok : SymOk syms
  code : codes (nats cs) = some l
  nodup : syms.Nodup
theorem mkWords_fst {syms : List Int} {l : List (Nat × Nat)} (h : l.length = syms.length) : (mkWords syms l).map (·.1) = syms := by
  unfold mkWords
  apply List.ext_getElem?
  intro i
  rw [List.getElem?_map, List.getElem?_zipWith]
  by_cases hi : i < syms.length
  · rw [List.getElem?_eq_getElem hi, List.getElem?_eq_getElem (by omega : i < l.length)]; rfl
  · rw [List.getElem?_eq_none (by omega : syms.length ≤ i)]; rfl
theorem Good.sum {cs : List Int} {n : Nat} (h : Good cs n) : (nats cs).sum = n := by
  have := nats_sum h.1; have := h.2.2; omega
theorem Good.le {cs : List Int} {n : Nat} (h : Good cs n) : n ≤ 256 := by have := h.2.1; have := h.2.2; omega
theorem notSym {syms : List Int} {k : Nat} {x : Int} (hx : syms[k]? = some x) (h : x < 0 ∨ 255 < x) : ¬ SymOk syms := fun e => by have := e x (List.mem_of_getElem? hx); omega

set_option maxRecDepth 100000 in
set_option maxHeartbeats 2000000 in
theorem check_any (cs syms : List Int) (A : Option Addr) (c G : Nat) (w : World) (hcs : cs.length = 16) (hn : syms.length ≤ maxLen) (hb : ∀ x ∈ cs, -9223372036854775808 ≤ x ∧ x ≤ 9223372036854775807) (hs : Seen w G A (ints .i64 syms)) (hG : G ≤ w.heap.size) :
    Calls Try.prog 79 #[tabV cs A syms.length c] w fun e w' => e = .returned (.int .i64 (checkErr cs syms)) ∧ Below w.heap.size w w' := by
  have h16 : (tabCells cs A syms.length c)[16]? = some (.slice A syms.length c) := tabCells_last hcs
  have hlen17 : (tabCells cs A syms.length c).length = 17 := tabCells_length hcs
  have hcm := fun w => countsMatch_any cs A syms.length c w hcs hn hb
  have has : Hid (Good cs syms.length → ∀ w1, Seen w1 G A (ints .i64 syms) → G ≤ w1.heap.size → Calls Try.prog 80 #[tabV cs A syms.length c] w1 fun e w' => ∃ v, e = .returned (.tuple #[v, .bool (codes (nats cs)).isSome]) ∧ Owns w1.heap.size [wordRow v (tabWords (nats cs) syms)] w' ∧ Below w1.heap.size w1 w') := by
    show _ → _
    intro hg w1 hs1 hG1
    have := assign_any (nats cs) syms A c G w1 (by rw [nats_length]; exact hcs) hg.sum hg.le hs1 hG1
    rw [natI_nats hg.1] at this
    exact this
  unfold maxLen at hn
  have Hcs := veil hcs; have Hb := veil hb
  clear hcs hb
  obtain ⟨xs, hxs⟩ : ∃ xs, xs = tabCells cs A syms.length c := ⟨_, rfl⟩
  have Hr := veil (range_new w xs 34)
  unfold tabV at hcm has ⊢
  rw [← hxs] at h16 hlen17 hcm has ⊢
  clear hxs
  have Hcm := veil hcm; clear hcm
  have H17 := veil hlen17; clear hlen17
  by_cases hgood : Good cs syms.length
  · have hgb : goodB cs syms.length = true := goodB_iff.2 hgood
    have h256 := hgood.le
    have Hg := veil hgood; clear hgood
    have Hgb := veil hgb; clear hgb
    go_enter Try.func79, Try.ntmps79
    go_wp2_with (first
      | (refine wpList_load_mid rfl 34 (.tmp 1) rfl w.heap.size 0 rfl xs _ Hr.out Try.underlying34 rfl (by rw [H17.out]; exact info_tab) ?_)
      | fail)
    refine (Hcm.out _).mono ?_
    rintro e w1 ⟨rfl, hb1⟩
    rw [Hgb.out]
    have c16 : w1.cell? ⟨w.heap.size, 16, none⟩ = some (.slice A syms.length c) := by
      rw [hb1.cell (by simp), World.cell?_alloc_at _ _ _ _ rfl]; simpa using h16
    have hr1 : w1.rangeAt w.heap.size 0 xs := range_below Hr.out hb1 (by simp)
    have hbel1 : Below w.heap.size w w1 := (below1 _ _).trans (hb1.mono (by simp))
    have hz1 := hb1.size
    simp at hz1
    have Hr1 := veil hr1
    clear Hr hr1 hb1 h16
    go_wp2_with fail
    go_loopg [4, 13] syms.length (fun gk x i wr => ∃ k : Nat, gk = syms.length - k ∧ k ≤ syms.length ∧ i = .int .i64 k ∧ Hid (∀ s ∈ syms.take k, 0 ≤ s ∧ s ≤ 255) ∧ wr = w1)
    case atStart => exact ⟨0, rfl, Nat.zero_le _, rfl, veil (by simp), rfl⟩
    case round =>
      obtain ⟨k, rfl, hk, rfl, HP, rfl⟩ := hrel
      by_cases hlt : k < syms.length
      · obtain ⟨g, o, x, rfl, hg, hx, h1⟩ := hs.int hlt
        rw [← hbel1.cell (by simp; omega)] at h1
        have Hx := veil hx; clear hx
        by_cases hx0 : x < 0
        · have He := veil (checkErr_arg Hg.out (notSym Hx.out (.inl hx0)))
          go_wp2
          go_ret
          exact ⟨by rw [He.out]; rfl, hbel1⟩
        · by_cases hx1 : 255 < x
          · have He := veil (checkErr_arg Hg.out (notSym Hx.out (.inr hx1)))
            go_wp2
            go_ret
            exact ⟨by rw [He.out]; rfl, hbel1⟩
          · go_wp2
            go_roundg (syms.length - (k + 1))
            case rel => exact ⟨k + 1, rfl, by omega, by go_num, veil (mem_snoc Hx.out HP.out (by omega)), rfl⟩
            case measure => omega
      · obtain rfl : k = syms.length := by omega
        have hsok : SymOk syms := by have := HP.out; rw [List.take_length] at this; exact this
        have Hs := veil hsok; clear hsok
        go_wp2_with (first
          | (refine wpList_load_mid rfl 34 (.tmp 1) rfl w.heap.size 0 rfl xs _ Hr1.out Try.underlying34 rfl (by rw [H17.out]; exact info_tab) ?_)
          | fail)
        refine (has.out Hg.out _ (hs.below hbel1 hG) (by omega)).mono ?_
        rintro e w2 ⟨v, rfl, HO, hb2⟩
        have hbel2 := hbel1.trans (hb2.mono (by omega))
        cases hco : codes (nats cs) with
        | none =>
          have He := veil (checkErr_bad Hg.out Hs.out (fun h => by rw [hco] at h; cases h.1))
          simp only [Option.isSome_none]
          go_wp2
          go_ret
          exact ⟨by rw [He.out]; rfl, hbel2⟩
        | some l =>
          simp only [Option.isSome_some]
          have hll : l.length = syms.length := (codes_length hco).trans Hg.out.sum
          have hw : tabWords (nats cs) syms = mkWords syms l := by unfold tabWords; rw [hco]; rfl
          rw [hw] at HO
          have hwl : (mkWords syms l).length = syms.length := by rw [mkWords_length _ _ (by omega), hll]
          have hfst := mkWords_fst hll
          have hnd := symS_nodup (mkWords syms l)
          rw [hfst] at hnd
          have hwf : ∀ t ∈ mkWords syms l, WF t.1 := by
            intro t ht
            have h1 : t.1 ∈ syms := by rw [← hfst]; exact List.mem_map_of_mem ht
            have := Hs.out _ h1
            exact wf_of (by omega)
          have Hwf := veil hwf
          obtain ⟨A5, c5, e5, hs5, _, _⟩ := HO.seen (List.mem_cons_self ..)
          simp only [wordRow] at e5 hs5
          rw [hwl] at e5 hnd
          subst e5
          have Hwl := veil hwl; have Hnd := veil hnd; have Hco := veil hco
          clear hwl hnd hfst hw hll hwf hco HO
          have hby := fun w0 (h : Seen w0 w2.heap.size A5 (tripleCells (mkWords syms l))) hG0 => bySymbol_any A5 c5 w2.heap.size (mkWords syms l) w0 h hG0 (by rw [Hwl.out]; omega) Hwf.out
          rw [Hwl.out] at hby
          have Hby := veil hby; clear hby
          generalize mkWords syms l = ws at *
          have hcn : (codes (nats cs)).isSome = true := by rw [Hco.out]; rfl
          have Hcn := veil hcn; clear hcn
          generalize hS : symS ws = S at *
          have Hle : S ≤ syms.length := Hnd.out.1
          go_wp2_with fail
          refine (Hby.out _ hs5 (Nat.le_refl _)).mono ?_
          rintro e w3 ⟨b, rfl, hbb, HM, hb3⟩
          have hml := fun ty => HM.len ty
          have hbel3 := hbel2.trans (hb3.mono hbel2.size)
          by_cases hnd : syms.Nodup
          · have He := veil (checkErr_ok Hg.out Hs.out Hcn.out hnd)
            have hSl := Hnd.out.2.2 hnd
            have hSl' : ¬ (S : Int) < (syms.length : Int) := by omega
            clear hSl hnd HM hs5
            go_wp2
            go_ret
            exact ⟨by rw [He.out]; rfl, hbel3⟩
          · have He := veil (checkErr_bad Hg.out Hs.out fun h => hnd h.2)
            have hSl : S ≠ syms.length := fun e => hnd (Hnd.out.2.1 e)
            have hSl' : (S : Int) < (syms.length : Int) := by omega
            clear hSl hnd HM hs5
            go_wp2
            go_ret
            exact ⟨by rw [He.out]; rfl, hbel3⟩
  · have hgb : goodB cs syms.length = false := goodB_no hgood
    have He := veil (checkErr_form hgood)
    have Hgb := veil hgb; clear hgb hgood
    go_enter Try.func79, Try.ntmps79
    go_wp2_with (first
      | (refine wpList_load_mid rfl 34 (.tmp 1) rfl w.heap.size 0 rfl xs _ Hr.out Try.underlying34 rfl (by rw [H17.out]; exact info_tab) ?_)
      | fail)
    refine (Hcm.out _).mono ?_
    rintro e w1 ⟨rfl, hb1⟩
    rw [Hgb.out]
    go_wp2
    go_ret
    exact ⟨by rw [He.out]; rfl, (below1 _ _).trans (hb1.mono (by simp))⟩
end Go.Proofs.Ytbboakdfnjjddaa

/- table.Words: its contract. -/
namespace Go.Proofs.Ytbboakdfnjjddaa
open Go.RowKit
set_option linter.unusedVariables false
set_option linter.unusedSimpArgs false
set_option maxRecDepth 100000

/-- The words that Words hands back. -/
def outWords (cs syms : List Int) : List (Int × Nat × Nat) := if checkErr cs syms = 0 then tabWords (nats cs) syms else []
theorem outWords_err {cs syms : List Int} (h : checkErr cs syms ≠ 0) : outWords cs syms = [] := by unfold outWords; rw [if_neg h]
theorem outWords_ok {cs syms : List Int} (h : checkErr cs syms = 0) : outWords cs syms = tabWords (nats cs) syms := by unfold outWords; rw [if_pos h]
theorem fine_of {cs syms : List Int} (h : checkErr cs syms = 0) : ∃ l, Fine cs syms l ∧ outWords cs syms = mkWords syms l ∧ l.length = syms.length := by
  obtain ⟨h1, h2, h3, h4⟩ := checkErr_zero h
  obtain ⟨l, hl⟩ := Option.isSome_iff_exists.1 h3
  exact ⟨l, ⟨h1, h2, hl, h4⟩, by rw [outWords_ok h]; unfold tabWords; rw [hl]; rfl, (codes_length hl).trans h1.sum⟩

set_option maxRecDepth 100000 in
set_option maxHeartbeats 2000000 in
theorem words_any (cs syms : List Int) (A : Option Addr) (c G : Nat) (w : World) (hcs : cs.length = 16) (hn : syms.length ≤ maxLen) (hb : ∀ x ∈ cs, -9223372036854775808 ≤ x ∧ x ≤ 9223372036854775807) (hs : Seen w G A (ints .i64 syms)) (hG : G ≤ w.heap.size) :
    Calls Try.prog 55 #[tabV cs A syms.length c] w fun e w' => ∃ v, e = .returned (.tuple #[v, .int .i64 (checkErr cs syms)]) ∧ Owns w.heap.size [wordRow v (outWords cs syms)] w' ∧ Below w.heap.size w w' := by
  have hlen17 : (tabCells cs A syms.length c).length = 17 := tabCells_length hcs
  have hck := fun w1 h1 hG1 => check_any cs syms A c G w1 hcs hn hb h1 hG1
  have has : Hid (Good cs syms.length → ∀ w1, Seen w1 G A (ints .i64 syms) → G ≤ w1.heap.size → Calls Try.prog 80 #[tabV cs A syms.length c] w1 fun e w' => ∃ v, e = .returned (.tuple #[v, .bool (codes (nats cs)).isSome]) ∧ Owns w1.heap.size [wordRow v (tabWords (nats cs) syms)] w' ∧ Below w1.heap.size w1 w') := by
    show _ → _
    intro hg w1 hs1 hG1
    have := assign_any (nats cs) syms A c G w1 (by rw [nats_length]; exact hcs) hg.sum hg.le hs1 hG1
    rw [natI_nats hg.1] at this
    exact this
  clear hcs hb
  obtain ⟨xs, hxs⟩ : ∃ xs, xs = tabCells cs A syms.length c := ⟨_, rfl⟩
  have Hr := veil (range_new w xs 34)
  unfold tabV at hck has ⊢
  rw [← hxs] at hlen17 hck has ⊢
  clear hxs
  have Hck := veil hck; clear hck
  have H17 := veil hlen17; clear hlen17
  go_enter Try.func55, Try.ntmps55
  go_wp2_with (first
    | (refine wpList_load_mid rfl 34 (.tmp 1) rfl w.heap.size 0 rfl xs _ Hr.out Try.underlying34 rfl (by rw [H17.out]; exact info_tab) ?_)
    | fail)
  refine (Hck.out _ (hs.alloc hG _) (by simp; omega)).mono ?_
  rintro e w1 ⟨rfl, hb1⟩
  have hr1 : w1.rangeAt w.heap.size 0 xs := range_below Hr.out hb1 (by simp)
  have hbel1 : Below w.heap.size w w1 := (below1 _ _).trans (hb1.mono (by simp))
  have hz1 := hb1.size
  simp at hz1
  have Hr1 := veil hr1
  clear Hr hr1 hb1
  by_cases h0 : checkErr cs syms = 0
  · obtain ⟨hg, _, hco, _⟩ := checkErr_zero h0
    have Hg := veil hg; have Hco := veil hco; have Ho := veil (outWords_ok h0)
    have H0 := veil h0
    clear hg hco
    rw [h0]
    go_wp2_with (first
      | (refine wpList_load_mid rfl 34 (.tmp 1) rfl w.heap.size 0 rfl xs _ Hr1.out Try.underlying34 rfl (by rw [H17.out]; exact info_tab) ?_)
      | fail)
    refine (has.out Hg.out _ (hs.below hbel1 hG) (by omega)).mono ?_
    rintro e w2 ⟨v, rfl, HO, hb2⟩
    go_wp2
    go_ret2
    exact ⟨v, ret_two rfl (by rw [H0.out]; rfl), by rw [Ho.out]; exact HO.down (by omega), hbel1.trans (hb2.mono (by omega))⟩
  · have Ho := veil (outWords_err h0)
    have hne : (checkErr cs syms != 0) = true := by simpa using h0
    clear h0
    obtain ⟨E, hE⟩ : ∃ E, E = checkErr cs syms := ⟨_, rfl⟩
    rw [← hE] at hne ⊢
    have HE := veil hE; clear hE
    go_wp2
    go_ret2
    exact ⟨_, ret_two rfl (by rw [← HE.out]; rfl), by rw [Ho.out]; exact (Owns.nil hbel1.size).fresh _ _, hbel1⟩
end Go.Proofs.Ytbboakdfnjjddaa

/- The reference's binary digits: texts of zeros and ones. -/
namespace Go.Proofs.Ytbboakdfnjjddaa
open Go.RowKit
set_option linter.unusedVariables false
set_option linter.unusedSimpArgs false
set_option maxRecDepth 100000

def digB (b : Bool) : UInt8 := if b then 49 else 48
def dig (l : List Bool) : List UInt8 := l.map digB
/-- The text of these digits. -/
def txt (l : List Bool) : ByteArray := ⟨(dig l).toArray⟩
theorem txt_nil : txt [] = ⟨#[]⟩ := rfl
theorem txt_append (a b : List Bool) : txt a ++ txt b = txt (a ++ b) := by
  apply ByteArray.ext; simp [txt, dig]
theorem txt_size (l : List Bool) : (txt l).size = l.length := by simp [txt, dig, ByteArray.size]

theorem enc_bit (q : Nat) : Utf8.encode (48 + (q : Int) % 2) = txt [decide (q % 2 = 1)] := by
  rcases Nat.mod_two_eq_zero_or_one q with h | h
  · have e : (q : Int) % 2 = 0 := by omega
    rw [e, h]; decide +kernel
  · have e : (q : Int) % 2 = 1 := by omega
    rw [e, h]; decide +kernel

theorem outside_any (n lo hi : Int) (w : World) : Calls Try.prog 43 #[.int .i64 n, .int .i64 lo, .int .i64 hi] w fun e w' => e = .returned (.bool (!(decide (lo ≤ n) && decide (n ≤ hi)))) ∧ w = w' := by
  have Hd : Hid (∀ b, b = (!(decide (lo ≤ n) && decide (n ≤ hi))) → b = (!(decide (lo ≤ n) && decide (n ≤ hi)))) := fun b h => h
  generalize hB : (!(decide (lo ≤ n) && decide (n ≤ hi))) = B at *
  have HB := veil hB; clear hB
  by_cases h1 : n < lo <;> by_cases h2 : hi < n <;>
  · go_enter Try.func43, Try.ntmps43
    go_wp2
    go_ret
    exact ⟨ret_bool (by rw [← HB.out]; symm; simp; omega), rfl⟩

set_option maxHeartbeats 400000 in
theorem binary_any (k n : Nat) (w : World) (hk : k ≤ 64) (hn : n < 9223372036854775808) :
    Calls Try.prog 36 #[.int .i64 k, .int .i64 n] w fun e w' => e = .returned (.string (txt (bitsN k n))) ∧ w = w' := by
  go_enter Try.func36, Try.ntmps36
  go_wp2_with fail
  go_loopg [1, 5, 7] k (fun gk nv s i wr => ∃ j : Nat, gk = k - j ∧ j ≤ k ∧ i = .int .i64 j ∧ nv = .int .i64 (n / 2 ^ j : Nat) ∧ s = .string (txt (bitsN j n)) ∧ w = wr)
  case atStart => exact ⟨0, rfl, Nat.zero_le _, rfl, by simp, rfl, rfl⟩
  case round =>
    obtain ⟨j, rfl, hj, rfl, rfl, rfl, rfl⟩ := hrel
    have hq : n / 2 ^ j < 9223372036854775808 := Nat.lt_of_le_of_lt (Nat.div_le_self _ _) hn
    by_cases hlt : j < k
    · generalize hQ : n / 2 ^ j = q at *
      have HQ := veil hQ; clear hQ
      have henc := enc_bit q
      have hsz : (Utf8.encode (48 + (q : Int) % 2)).size + (txt (bitsN j n)).size ≤ 9223372036854775807 := by
        rw [henc, txt_size, txt_size, bitsN_length]; simp; omega
      have Henc := veil henc; clear henc
      go_wp2
      go_roundg (k - (j + 1))
      case rel => exact ⟨j + 1, rfl, by omega, by go_num, by rw [Nat.pow_succ, ← Nat.div_div_eq_div_mul, HQ.out]; go_num, by rw [Henc.out, txt_append, ← HQ.out, Nat.add_comm j 1, bitsN_add]; rfl, rfl⟩
      case measure => omega
    · obtain rfl : j = k := by omega
      go_wp2
      go_ret
      exact ⟨rfl, rfl⟩
theorem txt_at (l : List Bool) (p : Nat) (b : Bool) (h : l[p]? = some b) (hp : p < (txt l).size) : ((txt l)[p]'hp).toNat = if b then 49 else 48 := by
  obtain ⟨hl, rfl⟩ := List.getElem?_eq_some_iff.1 h
  have : (txt l)[p]'hp = digB l[p] := by
    show (txt l).data[p]'hp = _
    simp [txt, dig]
  rw [this, digB]
  split <;> rfl
theorem next_dig (wr : World) (k : Nat) (l : List Bool) (p : Nat) (b : Bool) (hk : wr.heap[k]? = some (.stringIter (txt l) p)) (h : l[p]? = some b) (ty : TypeId) :
    (Instr.next (.pointer (some ⟨k, 0, none⟩)) true ty).run Try.prog wr = .ok (.tuple #[.bool true, .int .i64 p, .int .i32 (if b then 49 else 48)]) (wr.iterAt k (txt l) (p + 1)) := by
  have hp : p < (txt l).size := by rw [txt_size]; exact (List.getElem?_eq_some_iff.1 h).1
  have e := txt_at l p b h hp
  have h1 := Lib.run_next_ascii_at (P := Try.prog) wr k (txt l) p ty hk hp (by rw [e]; split <;> omega)
  rw [h1, e]
  cases b <;> rfl

theorem below_iter (w : World) (s : ByteArray) (p : Nat) : Below w.heap.size w (w.iter s p) := below1 w _
set_option maxHeartbeats 400000 in
theorem fromBinary_any (l : List Bool) (w : World) (hl : l.length ≤ 24) :
    Calls Try.prog 49 #[.string (txt l)] w fun e w' => e = .returned (.int .i64 (valB l)) ∧ Below w.heap.size w w' := by
  go_enter Try.func49, Try.ntmps49
  go_wp2_with fail
  go_loopg [3, 5] (l.length + 1) (fun gk nv cv wr => ∃ p : Nat, gk = l.length + 1 - p ∧ p ≤ l.length ∧ nv = .int .i64 (valB (l.take p)) ∧ wr.heap[w.heap.size]? = some (.stringIter (txt l) p) ∧ Below w.heap.size w wr)
  case atStart => exact ⟨0, rfl, Nat.zero_le _, rfl, World.iter_heap _ _ _, below_iter _ _ _⟩
  case round =>
    obtain ⟨p, rfl, hp, rfl, hit, hb⟩ := hrel
    by_cases hlt : p < l.length
    · obtain ⟨b, hbit⟩ := some_at hlt
      have hnx := next_dig wr w.heap.size l p b hit hbit
      have hv := valB_lt (l.take p)
      have hv2 : 2 ^ (l.take p).length ≤ 2 ^ 24 := two_pow_lt _ _ (by simp; omega)
      have hv3 : valB (l.take p) ≤ 16777216 := by omega
      have hstep : valB (l.take (p + 1)) = 2 * valB (l.take p) + b.toNat := by rw [take_snoc hbit, valB_snoc]
      have Hst := veil hstep
      clear hbit hv hv2 hstep
      have hit' := Lib.iterAt_heap wr w.heap.size (txt l) p (p + 1) hit
      have hb' := Lib.below_iterAt hb (Nat.le_refl _) (txt l) (p + 1)
      have Hit' := veil hit'; clear hit'
      have Hit := veil hit; clear hit
      cases b
      · simp only [Bool.false_eq_true, if_false] at hnx
        go_wp2
        go_roundg (l.length + 1 - (p + 1))
        case rel => exact ⟨p + 1, rfl, by omega, by rw [Hst.out]; go_num, Hit'.out, hb'⟩
        case measure => omega
      · simp only [if_true] at hnx
        go_wp2
        go_roundg (l.length + 1 - (p + 1))
        case rel => exact ⟨p + 1, rfl, by omega, by rw [Hst.out]; go_num, Hit'.out, hb'⟩
        case measure => omega
    · obtain rfl : p = l.length := by omega
      have hnx := fun ty => Lib.run_next_end_at (P := Try.prog) wr w.heap.size (txt l) l.length ty hit (by rw [txt_size]; omega)
      rw [List.take_length]
      clear hit
      go_wp2
      go_ret
      exact ⟨rfl, hb⟩
end Go.Proofs.Ytbboakdfnjjddaa

/- The reference's power and outside. -/
namespace Go.Proofs.Ytbboakdfnjjddaa
open Go.RowKit
set_option linter.unusedVariables false
set_option linter.unusedSimpArgs false
set_option maxRecDepth 100000

theorem power_any (k : Nat) (w : World) (h : k ≤ 24) : Calls Try.prog 83 #[.int .i64 k] w fun e w' => e = .returned (.int .i64 (2 ^ k : Nat)) ∧ w = w' := by
  go_enter Try.func83, Try.ntmps83
  go_wp2
  go_ret
  refine ⟨?_, rfl⟩
  have h1 : 2 ^ k ≤ 2 ^ 24 := two_pow_lt _ _ h
  have e : wrap64 ((2 : Int) ^ k) = ((2 ^ k : Nat) : Int) := by rw [show ((2 : Int) ^ k) = ((2 ^ k : Nat) : Int) by simp]; exact wrap64_nat _ (by omega)
  exact congrArg (fun x => Ending.returned (.int .i64 x)) e

theorem outside_yes (n lo hi : Int) (h : n < lo ∨ hi < n) (w : World) : Calls Try.prog 43 #[.int .i64 n, .int .i64 lo, .int .i64 hi] w fun e w' => e = .returned (.bool true) ∧ w' = w :=
  (outside_any n lo hi w).mono fun e w' h2 => ⟨by rw [h2.1]; refine ret_bool ?_; simp; omega, h2.2.symm⟩
theorem outside_no (n lo hi : Int) (h : lo ≤ n ∧ n ≤ hi) (w : World) : Calls Try.prog 43 #[.int .i64 n, .int .i64 lo, .int .i64 hi] w fun e w' => e = .returned (.bool false) ∧ w' = w :=
  (outside_any n lo hi w).mono fun e w' h2 => ⟨by rw [h2.1]; refine ret_bool ?_; simp; omega, h2.2.symm⟩
end Go.Proofs.Ytbboakdfnjjddaa

/- The reference's words of a table, as binary digits. -/
namespace Go.Proofs.Ytbboakdfnjjddaa
open Go.RowKit
set_option linter.unusedVariables false
set_option linter.unusedSimpArgs false
set_option maxRecDepth 100000

theorem elem_str : ElemOf Try.prog 117 9 1 16 := .mk' (z := .string .empty) Try.underlying117 (by kernel_rfl) rfl (by omega)
def strs (l : List (Nat × Nat)) : List Value := l.map fun p => .string (txt (bitsN p.1 p.2))
theorem strs_length (l : List (Nat × Nat)) : (strs l).length = l.length := by simp [strs]
theorem strs_at {l : List (Nat × Nat)} {k : Nat} {p : Nat × Nat} (h : l[k]? = some p) : (strs l)[k]? = some (.string (txt (bitsN p.1 p.2))) := by simp [strs, h]
abbrev strRow (v : Value) (l : List (Nat × Nat)) : Row := ⟨9, 1, v, l.length, strs l⟩
theorem strRow_snoc (v : Value) (l : List (Nat × Nat)) (p : Nat × Nat) : (⟨9, 1, v, l.length + [Value.string (txt (bitsN p.1 p.2))].length, strs l ++ [.string (txt (bitsN p.1 p.2))]⟩ : Row) = strRow v (l ++ [p]) := by simp [strRow, strs]

set_option maxRecDepth 100000 in
set_option maxHeartbeats 2000000 in
theorem refWordsOf_any (ns : List Nat) (A : Option Addr) (n c : Nat) (w : World) (hns : ns.length = 16) (hsum : ns.sum ≤ 256) :
    Calls Try.prog 60 #[tabV (natI ns) A n c] w fun e w' => ∃ v, e = .returned (.tuple #[v, .bool (codes ns).isSome]) ∧ Owns w.heap.size [strRow v ((codes ns).getD [])] w' ∧ Below w.heap.size w w' := by
  have hcs : (natI ns).length = 16 := by rw [natI_length]; exact hns
  have hr : Hid (∀ xs, xs = tabCells (natI ns) A n c → (w.alloc (.cells xs.toArray 34)).rangeAt w.heap.size 0 (ints .i64 (natI ns))) := by
    show ∀ xs, _
    intro xs e
    subst e
    exact range_left (range_new w _ _)
  have Hcs := veil hcs; have Hns := veil hns; have Hsum := veil hsum
  clear hcs hns hsum
  obtain ⟨xs, hxs⟩ : ∃ xs, xs = tabCells (natI ns) A n c := ⟨_, rfl⟩
  have Hr := veil (hr.out xs hxs)
  unfold tabV
  rw [← hxs]
  clear hr hxs
  go_enter Try.func60, Try.ntmps60
  go_wp2_with (first
    | (refine wpList_load_mid rfl 32 (.tmp 8) rfl w.heap.size 0 rfl (ints .i64 (natI ns)) _ Hr.out Try.underlying32 rfl (by rw [ints_length, Hcs.out]; exact info_arr) ?_)
    | fail)
  go_loopg [4, 5, 6, 7, 10] 16 (fun gk v cv kv nv i wr => ∃ (k cd : Nat) (acc : List (Nat × Nat)), gk = 16 - k ∧ k ≤ 16 ∧ i = .int .i64 k ∧ cv = .int .i64 cd ∧ Hid (CInv ns k (2 * cd) acc) ∧ Owns w.heap.size [strRow v acc] wr ∧ Below w.heap.size w wr)
  case atStart => exact ⟨0, 0, [], rfl, by omega, rfl, rfl, veil (CInv.start ns), (Owns.nil (by simp)).fresh _ _, below1 _ _⟩
  case round =>
    obtain ⟨k, cd0, acc, rfl, hk, rfl, rfl, HI, HO, hbel⟩ := hrel
    by_cases hlt : k < 16
    · obtain ⟨q, hq⟩ := some_at (xs := ns) (j := k) (by rw [Hns.out]; omega)
      have hcd := HI.out.2.1
      have hp16 : 2 ^ (k + 1) ≤ 2 ^ 16 := Nat.pow_le_pow_right (by omega) (by omega)
      have hacc : acc.length + q ≤ 256 := by
        have h1 := take_sum hq
        have h2 : (ns.take (k + 1)).sum + (ns.drop (k + 1)).sum = ns.sum := by rw [← List.sum_append, List.take_append_drop]
        have := Hsum.out
        have := HI.out.2.2
        omega
      obtain ⟨cd, hcd0⟩ : ∃ cd, cd = 2 * cd0 := ⟨_, rfl⟩
      rw [← hcd0] at HI hcd
      have Hn := veil hq; have Hcd := veil hcd; have Hp16 := veil hp16
      have hcd2 : cd < 65536 := by omega
      have hq2 : q ≤ 256 := by omega
      have hw2 : (cd0 : Int) * 2 = (cd : Int) := by omega
      have Hcd0 := veil hcd0
      clear hq hcd hp16 hcd0
      go_wp2_with (first
        | (refine wpList_index_arr rfl 32 (.tmp 9) (.tmp 10) rfl 16 3 .i64 Try.underlying32 Try.underlying3 info_int1 (ints .i64 (natI ns)) rfl .i64 k rfl (.int .i64 (q : Int)) hlt (ints_at (natI_at Hn.out)) ?_)
        | fail)
      obtain ⟨N, hN⟩ : ∃ N, N = 2 ^ (k + 1) - 1 := ⟨_, rfl⟩
      have hN2 : N < 65536 := by have := Hp16.out; omega
      have HN := veil hN
      have hpw := fun w => power_any (k + 1) w (by omega)
      have hp0 : 0 < 2 ^ (k + 1) := Nat.pow_pos (by omega)
      have hN1 : 2 ^ (k + 1) = N + 1 := by omega
      rw [hN1] at hpw
      clear hN hp0 hN1
      have Hpw := veil hpw; clear hpw
      go_loopg [4, 5, 17] q (fun gk v cv i wr2 => ∃ j : Nat, gk = q - j ∧ j ≤ q ∧ i = .int .i64 j ∧ cv = .int .i64 ((cd + j : Nat) : Int) ∧ Hid (cd + j ≤ N) ∧ Owns w.heap.size [strRow v (acc ++ wordsTo k cd j)] wr2 ∧ Below w.heap.size w wr2)
      case atStart => exact ⟨0, rfl, Nat.zero_le _, rfl, by go_num, veil (by have := Hcd.out; have := HN.out; omega), by simpa [wordsTo] using HO, hbel⟩
      case round =>
        obtain ⟨j, rfl, hj, rfl, rfl, HJ, HO2, hbel2⟩ := hrel
        have hz2 := hbel2.size
        by_cases hjn : j < q
        · have hpw := Hpw.out wr
          rw [show (((k + 1 : Nat)) : Int) = (k : Int) + 1 from rfl, show (((N + 1 : Nat)) : Int) = (N : Int) + 1 from rfl] at hpw
          have Hp := veil hpw; clear hpw
          by_cases hf : N ≤ cd + j
          · have hd := HI.out.fail Hn.out hjn (by rw [← HN.out]; exact hf)
            have Hd := veil hd; clear hd
            have hf' : (N : Int) ≤ (cd : Int) + j := by omega
            go_wp2_with fail
            refine Hp.out.mono ?_
            rintro e w3 ⟨rfl, rfl⟩
            go_wp2
            go_ret2
            exact ⟨_, ret_two rfl (by rw [Hd.out]; rfl), by rw [Hd.out]; exact (Owns.nil hbel2.size).fresh _ _, hbel2⟩
          · have hf' : ¬ (N : Int) ≤ (cd : Int) + j := by omega
            have hbn := binary_any (k + 1) (cd + j) wr (by omega) (by omega)
            rw [show (((k + 1 : Nat)) : Int) = (k : Int) + 1 from rfl, show (((cd + j : Nat)) : Int) = (cd : Int) + j from rfl] at hbn
            have Hbn := veil hbn; clear hbn
            have hlen : (acc ++ wordsTo k cd j).length = acc.length + j := by rw [List.length_append, wordsTo_length]
            have hap : acc ++ wordsTo k cd (j + 1) = (acc ++ wordsTo k cd j) ++ [(k + 1, cd + j)] := by rw [wordsTo_snoc, List.append_assoc]
            have Hlen := veil hlen; have Hap := veil hap
            clear hlen hap
            generalize acc ++ wordsTo k cd j = ws at *
            go_wp2_with fail
            refine Hp.out.mono ?_
            rintro e w3 ⟨rfl, rfl⟩
            go_wp2_with fail
            refine Hbn.out.mono ?_
            rintro e w3 ⟨rfl, rfl⟩
            go_wp2_with (first
              | (at_builtin; go_loud (refine wpList_ownN _ rfl (.tmp 25) (.tmp 30) _ rfl w.heap.size 9 16 elem_str u4 ws.length (strs ws) [] rfl HO2 [.string (txt (bitsN (k + 1) (cd + j)))] rfl (by simp [Value.oneCell']) (by have := Hlen.out; unfold maxLen; simp; omega) (by have := Hlen.out; simp; omega) ?_); intro v1 w1 HO3 hb3 hz3))
            rw [strRow_snoc _ _ (k + 1, cd + j)] at HO3
            go_roundg (q - (j + 1))
            case rel => exact ⟨j + 1, rfl, by omega, by go_num, by go_num, veil (by omega), by rw [Hap.out]; exact HO3, hbel2.trans hb3⟩
            case measure => omega
        · obtain rfl : j = q := by omega
          go_wp2
          go_roundg (16 - (k + 1))
          case rel => exact ⟨k + 1, cd + j, acc ++ wordsTo k cd j, rfl, by omega, by go_num, rfl, veil (HI.out.next Hn.out (by rw [← HN.out]; exact HJ.out)), HO2, hbel2⟩
          case measure => omega
    · obtain rfl : k = 16 := by omega
      have hd : codes ns = some acc := by have h := HI.out; rw [← Hns.out] at h; exact h.done
      have Hd := veil hd; clear hd
      go_wp2
      go_ret2
      exact ⟨_, ret_two rfl (by rw [Hd.out]; rfl), by rw [Hd.out]; exact HO, hbel⟩
end Go.Proofs.Ytbboakdfnjjddaa

/- The reference's Has at numbers. -/
namespace Go.Proofs.Ytbboakdfnjjddaa
open Go.RowKit
set_option linter.unusedVariables false
set_option linter.unusedSimpArgs false
set_option maxRecDepth 100000

theorem hasInt (A : Option Addr) (c G : Nat) (xs : List Int) (y : Int) (w : World) (hx : Seen w G A (ints .i64 xs)) (hl : xs.length ≤ maxLen) :
    Calls Try.prog 82 #[.slice A xs.length c, .int .i64 y] w fun e w' => e = .returned (.bool (decide (y ∈ xs))) ∧ w = w' := by
  unfold maxLen at hl
  go_enter Try.func82, Try.ntmps82
  go_wp2_with fail
  go_loopg [6, 9] xs.length (fun gk v i wr => ∃ k : Nat, gk = xs.length - k ∧ k ≤ xs.length ∧ i = .int .i64 k ∧ Hid (y ∉ xs.take k) ∧ w = wr)
  case atStart => exact ⟨0, rfl, Nat.zero_le _, rfl, veil (by simp), rfl⟩
  case round =>
    obtain ⟨k, rfl, hk, rfl, HN, rfl⟩ := hrel
    by_cases hlt : k < xs.length
    · obtain ⟨g, o, x, rfl, _, hxk, h1⟩ := hx.int hlt
      have Hx := veil hxk; clear hxk
      by_cases hxy : y = x
      · have hb : (y == x) = true := by simpa using hxy
        have hm : y ∈ xs := by rw [hxy]; exact List.mem_of_getElem? Hx.out
        have Hd := veil (decide_eq_true hm)
        clear hxy hm
        go_wp2
        go_ret
        exact ⟨ret_bool Hd.out.symm, rfl⟩
      · have hb : (y == x) = false := by simpa using hxy
        have Hxy := veil hxy; clear hxy
        go_wp2
        go_roundg (xs.length - (k + 1))
        case rel =>
          refine ⟨k + 1, rfl, by omega, by go_num, veil ?_, rfl⟩
          rw [take_snoc Hx.out]
          intro h
          rcases List.mem_append.1 h with h | h
          · exact HN.out h
          · simp at h; exact Hxy.out h
        case measure => omega
    · obtain rfl : k = xs.length := by omega
      have hm : y ∉ xs := by have := HN.out; rw [List.take_length] at this; exact this
      have Hd := veil (decide_eq_false hm)
      clear hm
      go_wp2
      go_ret
      exact ⟨ret_bool Hd.out.symm, rfl⟩
end Go.Proofs.Ytbboakdfnjjddaa

/- The reference's check of a table: the same contract as Check's. -/
namespace Go.Proofs.Ytbboakdfnjjddaa
open Go.RowKit
set_option linter.unusedVariables false
set_option linter.unusedSimpArgs false
set_option maxRecDepth 100000

theorem run_take_ints (A : Option Addr) (n c h : Nat) (h2 : h ≤ c) (u : World) : (Instr.sliceAt 23 (.slice A n c) none (some (.int .i64 (h : Int))) none).run Try.prog u = .ok (.slice A h c) u := by
  have he : Try.prog.underlying 23 = some (.slice (Try.prog.elem 23)) := by kernel_rfl
  have hz : (sizeOf (Try.prog.elem 23)).run Try.prog u = .ok 1 u := by kernel_rfl
  rw [run_sliceAt_slice _ _ _ _ _ _ he, run_slice_h _ _ _ _ _ he _ _ (by omega) (by omega), hz]
  cases A <;> simp [Result.andThen, sliced, Addr.add]
theorem notGood_sum {cs : List Int} {n k : Nat} (h0 : ∀ x ∈ cs.take k, 0 ≤ x) (h : 256 < sumW (cs.take k)) : ¬ Good cs n := by
  rintro ⟨h1, h2, h3⟩
  have e : sumW cs = sumW (cs.take k) + sumW (cs.drop k) := by
    conv => lhs; rw [← List.take_append_drop k cs, sumW_app]
  have h5 := sumW_pos (cs.drop k) fun y hy => h1 y (List.mem_of_mem_drop hy)
  omega
theorem dup_snoc {syms : List Int} {k : Nat} {x : Int} (hx : syms[k]? = some x) (h : (syms.take k).Nodup) (hn : x ∉ syms.take k) : (syms.take (k + 1)).Nodup := by
  rw [take_snoc hx, List.nodup_append]
  refine ⟨h, by simp, fun a ha b hb => ?_⟩
  simp at hb
  subst hb
  intro e
  subst e
  exact hn ha
theorem dup_stop {syms : List Int} {k : Nat} {x : Int} (hx : syms[k]? = some x) (hn : x ∈ syms.take k) : ¬ syms.Nodup := by
  intro h
  have e : syms = syms.take (k + 1) ++ syms.drop (k + 1) := (List.take_append_drop _ _).symm
  rw [e, List.nodup_append, take_snoc hx, List.nodup_append] at h
  exact h.1.2.2 x hn x (by simp) rfl

set_option maxRecDepth 100000 in
set_option maxHeartbeats 2000000 in
theorem refCheck_any (cs syms : List Int) (A : Option Addr) (c G : Nat) (w : World) (hcs : cs.length = 16) (hn : syms.length ≤ maxLen) (hcap : syms.length ≤ c) (hb : ∀ x ∈ cs, -9223372036854775808 ≤ x ∧ x ≤ 9223372036854775807) (hs : Seen w G A (ints .i64 syms)) (hG : G ≤ w.heap.size) :
    Calls Try.prog 59 #[tabV cs A syms.length c] w fun e w' => e = .returned (.int .i64 (checkErr cs syms)) ∧ Below w.heap.size w w' := by
  have h16 : (tabCells cs A syms.length c)[16]? = some (.slice A syms.length c) := tabCells_last hcs
  have hlen17 : (tabCells cs A syms.length c).length = 17 := tabCells_length hcs
  have hr : Hid (∀ xs, xs = tabCells cs A syms.length c → (w.alloc (.cells xs.toArray 34)).rangeAt w.heap.size 0 (ints .i64 cs)) := by
    show ∀ xs, _
    intro xs e
    subst e
    exact range_left (range_new w _ _)
  have hwo : Hid (Good cs syms.length → ∀ w1, Calls Try.prog 60 #[tabV cs A syms.length c] w1 fun e w' => ∃ v, e = .returned (.tuple #[v, .bool (codes (nats cs)).isSome]) ∧ Owns w1.heap.size [strRow v ((codes (nats cs)).getD [])] w' ∧ Below w1.heap.size w1 w') := by
    show _ → _
    intro hg w1
    have := refWordsOf_any (nats cs) A syms.length c w1 (by rw [nats_length]; exact hcs) (by rw [hg.sum]; exact hg.le)
    rw [natI_nats hg.1] at this
    exact this
  have Hn := veil hn
  unfold maxLen at hn
  have Hb := veil hb
  have Hcs := veil hcs
  clear hb hcs
  obtain ⟨xs, hxs⟩ : ∃ xs, xs = tabCells cs A syms.length c := ⟨_, rfl⟩
  have Hr := veil (hr.out xs hxs)
  have Hrw := veil (range_new w xs 34)
  unfold tabV at hwo ⊢
  rw [← hxs] at h16 hlen17 hwo ⊢
  have H17 := veil hlen17
  clear hr hxs hlen17
  go_enter Try.func59, Try.ntmps59
  go_wp2_with (first
    | (refine wpList_load_mid rfl 32 (.tmp 12) rfl w.heap.size 0 rfl (ints .i64 cs) _ Hr.out Try.underlying32 rfl (by rw [ints_length, Hcs.out]; exact info_arr) ?_)
    | fail)
  have c16 : (w.alloc (.cells xs.toArray 34)).cell? ⟨w.heap.size, 16, none⟩ = some (.slice A syms.length c) := by rw [World.cell?_alloc_at _ _ _ _ rfl]; simpa using h16
  have hsW := hs.alloc hG (.cells xs.toArray 34)
  have hbW := below1 w (.cells xs.toArray 34)
  have hzW : w.heap.size < (w.alloc (.cells xs.toArray 34)).heap.size := by simp
  generalize w.alloc (.cells xs.toArray 34) = W at *
  clear h16 hs Hr
  go_loopg [3, 5, 14] 16 (fun gk s x i wr => ∃ k : Nat, gk = 16 - k ∧ k ≤ 16 ∧ i = .int .i64 k ∧ (∃ z : Int, s = .int .i64 z ∧ Hid (z = sumW (cs.take k)) ∧ 0 ≤ z ∧ z ≤ 256 * k) ∧ Hid (∀ x ∈ cs.take k, 0 ≤ x) ∧ W = wr)
  case atStart => exact ⟨0, rfl, by omega, rfl, ⟨0, rfl, veil rfl, by omega, by omega⟩, veil (by simp), rfl⟩
  case round =>
    obtain ⟨k, rfl, hk, rfl, ⟨z, rfl, Hz, hz0, hz1⟩, Hp, rfl⟩ := hrel
    by_cases hlt : k < 16
    · obtain ⟨x, hx⟩ := some_at (xs := cs) (j := k) (by rw [Hcs.out]; omega)
      have hxb := Hb.out x (List.mem_of_getElem? hx)
      have Hx := veil hx; clear hx
      by_cases hout : x < 0 ∨ 256 < x
      · have hg : ¬ Good cs syms.length := by
          rcases hout with h | h
          · exact good_stop Hx.out (.inl h)
          · exact good_stop Hx.out (.inr (by have := Hz.out; omega))
        have He := veil (checkErr_form hg)
        have Ho := veil (outside_yes x 0 256 hout W)
        clear hg hout
        go_wp2_with (first
          | (refine wpList_index_arr rfl 32 (.tmp 13) (.tmp 14) rfl 16 3 .i64 Try.underlying32 Try.underlying3 info_int1 (ints .i64 cs) rfl .i64 k rfl (.int .i64 x) hlt (ints_at Hx.out) ?_)
          | fail)
        refine Ho.out.mono ?_
        rintro e w3 ⟨rfl, rfl⟩
        go_wp2
        go_ret
        exact ⟨by rw [He.out]; rfl, hbW⟩
      · have hin : 0 ≤ x ∧ x ≤ 256 := by omega
        have Ho := veil (outside_no x 0 256 hin W)
        clear hout
        by_cases hz256 : 256 < z
        · have hg : ¬ Good cs syms.length := notGood_sum Hp.out (by rw [← Hz.out]; exact hz256)
          have He := veil (checkErr_form hg)
          clear hg
          go_wp2_with (first
            | (refine wpList_index_arr rfl 32 (.tmp 13) (.tmp 14) rfl 16 3 .i64 Try.underlying32 Try.underlying3 info_int1 (ints .i64 cs) rfl .i64 k rfl (.int .i64 x) hlt (ints_at Hx.out) ?_)
            | fail)
          refine Ho.out.mono ?_
          rintro e w3 ⟨rfl, rfl⟩
          go_wp2
          go_ret
          exact ⟨by rw [He.out]; rfl, hbW⟩
        · have hw : IntKind.i64.wrap (z + x) = z + x := by rw [IntKind.wrap_i64]; omega
          go_wp2_with (first
            | (refine wpList_index_arr rfl 32 (.tmp 13) (.tmp 14) rfl 16 3 .i64 Try.underlying32 Try.underlying3 info_int1 (ints .i64 cs) rfl .i64 k rfl (.int .i64 x) hlt (ints_at Hx.out) ?_)
            | fail)
          refine Ho.out.mono ?_
          rintro e w3 ⟨rfl, rfl⟩
          go_wp2
          go_roundg (16 - (k + 1))
          case rel => exact ⟨k + 1, rfl, by omega, by go_num, ⟨z + x, by go_num, veil (by rw [sumW_take Hx.out, ← Hz.out]), by omega, by omega⟩, veil (mem_snoc Hx.out Hp.out (by omega)), rfl⟩
          case measure => omega
    · obtain rfl : k = 16 := by omega
      have e : cs.take 16 = cs := by rw [List.take_of_length_le]; rw [Hcs.out]; omega
      have h3 := Hp.out
      have h4 := Hz.out
      rw [e] at h3 h4
      have H3 := veil h3; have H4 := veil h4
      clear e h3 h4
      by_cases hz256 : 256 < z
      · have hg : ¬ Good cs syms.length := fun h => by have := h.2.1; have := H4.out; omega
        have He := veil (checkErr_form hg)
        clear hg
        go_wp2
        go_ret
        exact ⟨by rw [He.out]; rfl, hbW⟩
      · by_cases hzn : z = (syms.length : Int)
        · have hg : Good cs syms.length := ⟨H3.out, by have := H4.out; omega, by have := H4.out; omega⟩
          have Hg := veil hg
          have hne : (z != (syms.length : Int)) = false := by simpa using hzn
          have h256 := hg.le
          clear hg hzn
          go_wp2_with fail
          go_loopg [7, 39] syms.length (fun gk x i wr => ∃ k : Nat, gk = syms.length - k ∧ k ≤ syms.length ∧ i = .int .i64 k ∧ Hid (∀ s ∈ syms.take k, 0 ≤ s ∧ s ≤ 255) ∧ W = wr)
          case atStart => exact ⟨0, rfl, Nat.zero_le _, rfl, veil (by simp), rfl⟩
          case round =>
            obtain ⟨k, rfl, hk2, rfl, HP, rfl⟩ := hrel
            by_cases hlt2 : k < syms.length
            · obtain ⟨g, o, x, rfl, hg, hx, h1⟩ := hsW.int hlt2
              have Hx := veil hx; clear hx
              by_cases hin : 0 ≤ x ∧ x ≤ 255
              · have Ho := veil (outside_no x 0 255 hin W)
                go_wp2_with fail
                refine Ho.out.mono ?_
                rintro e w3 ⟨rfl, rfl⟩
                go_wp2
                go_roundg (syms.length - (k + 1))
                case rel => exact ⟨k + 1, rfl, by omega, by go_num, veil (mem_snoc Hx.out HP.out hin), rfl⟩
                case measure => omega
              · have Ho := veil (outside_yes x 0 255 (by omega) W)
                have He := veil (checkErr_arg Hg.out (notSym Hx.out (by omega)))
                go_wp2_with fail
                refine Ho.out.mono ?_
                rintro e w3 ⟨rfl, rfl⟩
                go_wp2
                go_ret
                exact ⟨by rw [He.out]; rfl, hbW⟩
            · obtain rfl : k = syms.length := by omega
              have hsok : SymOk syms := by have := HP.out; rw [List.take_length] at this; exact this
              have Hs := veil hsok; clear hsok
              go_wp2_with fail
              go_loopg [8, 9, 49] syms.length (fun gk i0 x i wr => ∃ k : Nat, gk = syms.length - k ∧ k ≤ syms.length ∧ i = .int .i64 k ∧ Hid ((syms.take k).Nodup) ∧ W = wr)
              case atStart => exact ⟨0, rfl, Nat.zero_le _, rfl, veil (by simp), rfl⟩
              case round =>
                obtain ⟨j, rfl, hj2, rfl, HD, rfl⟩ := hrel
                by_cases hjt : j < syms.length
                · obtain ⟨g, o, x, rfl, hg, hx, h1⟩ := hsW.int hjt
                  have hcut := run_take_ints (some ⟨g, o, none⟩) syms.length c j (by omega) W
                  have htl : (syms.take j).length = j := by simp; omega
                  have hha := hasInt (some ⟨g, o, none⟩) c G (syms.take j) x W (hsW.takeInts j) (by rw [htl]; unfold maxLen; omega)
                  rw [htl] at hha
                  have Hx := veil hx; clear hx htl
                  by_cases hin : x ∈ syms.take j
                  · rw [decide_eq_true hin] at hha
                    have Hha := veil hha
                    have He := veil (checkErr_bad Hg.out Hs.out fun h => dup_stop Hx.out hin h.2)
                    clear hha hin
                    go_wp2_with fail
                    refine Hha.out.mono ?_
                    rintro e w3 ⟨rfl, rfl⟩
                    go_wp2
                    go_ret
                    exact ⟨by rw [He.out]; rfl, hbW⟩
                  · rw [decide_eq_false hin] at hha
                    have Hha := veil hha; have Hin := veil hin
                    clear hha hin
                    go_wp2_with fail
                    refine Hha.out.mono ?_
                    rintro e w3 ⟨rfl, rfl⟩
                    go_wp2
                    go_roundg (syms.length - (j + 1))
                    case rel => exact ⟨j + 1, rfl, by omega, by go_num, veil (dup_snoc Hx.out HD.out Hin.out), rfl⟩
                    case measure => omega
                · obtain rfl : j = syms.length := by omega
                  have hnd : syms.Nodup := by have := HD.out; rw [List.take_length] at this; exact this
                  have Hnd := veil hnd; clear hnd
                  have Hwo := veil (hwo.out Hg.out W)
                  go_wp2_with (first
                    | (refine wpList_load_mid rfl 34 (.tmp 1) rfl w.heap.size 0 rfl xs _ Hrw.out Try.underlying34 rfl (by rw [H17.out]; exact info_tab) ?_)
                    | fail)
                  refine Hwo.out.mono ?_
                  rintro e w2 ⟨v, rfl, HO, hb2⟩
                  have hbel2 := hbW.trans (hb2.mono (Nat.le_of_lt hzW))
                  cases hco : codes (nats cs) with
                  | none =>
                    have He := veil (checkErr_bad Hg.out Hs.out (fun h => by rw [hco] at h; cases h.1))
                    simp only [Option.isSome_none]
                    clear HO Hwo
                    go_wp2
                    go_ret
                    exact ⟨by rw [He.out]; rfl, hbel2⟩
                  | some l =>
                    have He := veil (checkErr_ok Hg.out Hs.out (by rw [hco]; rfl) Hnd.out)
                    simp only [Option.isSome_some]
                    clear HO Hwo
                    go_wp2
                    go_ret
                    exact ⟨by rw [He.out]; rfl, hbel2⟩
        · have hg : ¬ Good cs syms.length := fun h => hzn (by have := h.2.2; have := H4.out; omega)
          have He := veil (checkErr_form hg)
          have hne : (z != (syms.length : Int)) = true := by simpa using hzn
          clear hg hzn
          go_wp2
          go_ret
          exact ⟨by rw [He.out]; rfl, hbW⟩
end Go.Proofs.Ytbboakdfnjjddaa

/- A symbol that has a word: where it stands. -/
namespace Go.Proofs.Ytbboakdfnjjddaa
open Go.RowKit
set_option linter.unusedVariables false
set_option linter.unusedSimpArgs false
set_option maxRecDepth 100000

theorem symF_mem {ws : List (Int × Nat × Nat)} {x : Int} {p : Int × Int} (h : symF ws x = some p) : ∃ t ∈ ws, t.1 = x ∧ fi t = p := by
  induction ws using snoc_ind with
  | h0 => simp [symF, symGo] at h
  | h1 ws t ih =>
    rw [symF_snoc] at h
    unfold upd at h
    by_cases e : x = t.1
    · rw [if_pos e] at h; injection h with h; exact ⟨t, by simp, e.symm, h⟩
    · rw [if_neg e] at h
      obtain ⟨u, hu, h2⟩ := ih h
      exact ⟨u, by simp [hu], h2⟩
theorem mem_mkWords {syms : List Int} {l : List (Nat × Nat)} {t : Int × Nat × Nat} (h : t ∈ mkWords syms l) : ∃ i : Nat, syms[i]? = some t.1 ∧ l[i]? = some t.2 := by
  obtain ⟨i, hi⟩ := List.getElem?_of_mem h
  refine ⟨i, ?_⟩
  unfold mkWords at hi
  rw [List.getElem?_zipWith] at hi
  cases h1 : syms[i]? with
  | none => simp [h1] at hi
  | some s =>
    cases h2 : l[i]? with
    | none => simp [h1, h2] at hi
    | some p => simp [h1, h2] at hi; subst hi; exact ⟨rfl, rfl⟩
end Go.Proofs.Ytbboakdfnjjddaa

/- The reference's wordOf: the digits of a symbol's word. -/
namespace Go.Proofs.Ytbboakdfnjjddaa
open Go.RowKit
set_option linter.unusedVariables false
set_option linter.unusedSimpArgs false
set_option maxRecDepth 100000

/-- Of symbols that are all different each has the word at its place. -/
theorem symF_at {syms : List Int} {l : List (Nat × Nat)} (hnd : syms.Nodup) (hll : l.length = syms.length) {i : Nat} {x : Int} {p : Nat × Nat} (hx : syms[i]? = some x) (hp : l[i]? = some p) : symF (mkWords syms l) x = some ((p.1 : Int), (p.2 : Int)) := by
  have hm : x ∈ (mkWords syms l).map (·.1) := by rw [mkWords_fst hll]; exact List.mem_of_getElem? hx
  obtain ⟨q, hq⟩ := Option.isSome_iff_exists.1 ((symF_some _ _).2 hm)
  obtain ⟨t, ht, e1, e2⟩ := symF_mem hq
  obtain ⟨k, h1, h2⟩ := mem_mkWords ht
  have hik : i = k := by
    obtain ⟨hi, e3⟩ := List.getElem?_eq_some_iff.1 hx
    obtain ⟨hk, e4⟩ := List.getElem?_eq_some_iff.1 h1
    have hpw := List.pairwise_iff_getElem.1 (List.nodup_iff_pairwise_ne.1 hnd)
    rcases Nat.lt_trichotomy i k with h | h | h
    · exact absurd (by rw [e3, e4, e1]) (hpw i k hi hk h)
    · exact h
    · exact absurd (by rw [e3, e4, e1]) (hpw k i hk hi h)
  subst hik
  rw [hp] at h2
  injection h2 with h2
  rw [hq, ← e2, fi, ← h2]
theorem symF_none {syms : List Int} {l : List (Nat × Nat)} (hll : l.length = syms.length) {x : Int} (hx : x ∉ syms) : symF (mkWords syms l) x = none := by
  cases h : symF (mkWords syms l) x with
  | none => rfl
  | some p =>
    have := (symF_some (mkWords syms l) x).1 (by rw [h]; rfl)
    rw [mkWords_fst hll] at this
    exact absurd this hx
/-- The bits of a symbol's word. -/
def symBits (ws : List (Int × Nat × Nat)) (x : Int) : List Bool := bitsN (((symF ws x).getD (0, 0)).1).toNat (((symF ws x).getD (0, 0)).2).toNat
theorem symBits_none {ws : List (Int × Nat × Nat)} {x : Int} (h : symF ws x = none) : symBits ws x = [] := by unfold symBits; rw [h]; rfl

set_option maxRecDepth 100000 in
set_option maxHeartbeats 2000000 in
theorem wordOf_any (cs syms : List Int) (l : List (Nat × Nat)) (A : Option Addr) (c G : Nat) (x : Int) (w : World) (hcs : cs.length = 16) (hf : Fine cs syms l) (hs : Seen w G A (ints .i64 syms)) (hG : G ≤ w.heap.size) :
    Calls Try.prog 34 #[tabV cs A syms.length c, .int .i64 x] w fun e w' => e = .returned (.tuple #[.string (txt (symBits (mkWords syms l) x)), .bool (symF (mkWords syms l) x).isSome]) ∧ Below w.heap.size w w' := by
  have h16 : (tabCells cs A syms.length c)[16]? = some (.slice A syms.length c) := tabCells_last hcs
  have hlen17 : (tabCells cs A syms.length c).length = 17 := tabCells_length hcs
  have h256 := hf.good.le
  have hll : l.length = syms.length := (codes_length hf.code).trans hf.good.sum
  have hwo := fun w1 => refWordsOf_any (nats cs) A syms.length c w1 (by rw [nats_length]; exact hcs) (by rw [hf.good.sum]; exact hf.good.le)
  rw [natI_nats hf.good.1, hf.code] at hwo
  have Hll := veil hll; have Hnd := veil hf.nodup
  clear hf hll hcs
  obtain ⟨ys, hys⟩ : ∃ ys, ys = tabCells cs A syms.length c := ⟨_, rfl⟩
  have Hr := veil (range_new w ys 34)
  unfold tabV at hwo ⊢
  rw [← hys] at hlen17 hwo h16 ⊢
  clear hys
  have Hwo := veil hwo; clear hwo
  have H17 := veil hlen17; clear hlen17
  go_enter Try.func34, Try.ntmps34
  go_wp2_with (first
    | (refine wpList_load_mid rfl 34 (.tmp 2) rfl w.heap.size 0 rfl ys _ Hr.out Try.underlying34 rfl (by rw [H17.out]; exact info_tab) ?_)
    | fail)
  refine (Hwo.out _).mono ?_
  rintro e w1 ⟨v, rfl, HS, hb1⟩
  have c16 : w1.cell? ⟨w.heap.size, 16, none⟩ = some (.slice A syms.length c) := by rw [hb1.cell (by simp), World.cell?_alloc_at _ _ _ _ rfl]; simpa using h16
  have hbel1 : Below w.heap.size w w1 := (below1 _ _).trans (hb1.mono (by simp))
  have hz1 := hb1.size
  simp at hz1
  obtain ⟨A5, c5, e5, hs5, _, _⟩ := HS.seen (List.mem_cons_self ..)
  simp only [strRow, Option.getD_some, Hll.out] at e5 hs5
  subst e5
  clear Hr hb1 Hwo h16 HS
  go_wp2_with fail
  go_loopg [8, 9, 18] syms.length (fun gk i0 s0 i wr => ∃ k : Nat, gk = syms.length - k ∧ k ≤ syms.length ∧ i = .int .i64 k ∧ Hid (x ∉ syms.take k) ∧ w1 = wr)
  case atStart => exact ⟨0, rfl, Nat.zero_le _, rfl, veil (by simp), rfl⟩
  case round =>
    obtain ⟨k, rfl, hk, rfl, HN, rfl⟩ := hrel
    by_cases hlt : k < syms.length
    · obtain ⟨p, hp⟩ := some_at (xs := l) (j := k) (by rw [Hll.out]; exact hlt)
      obtain ⟨g5, o5, rfl, hg5, h5⟩ := hs5.cell (strs_at hp)
      obtain ⟨g, o, y, rfl, hg, hy, h1⟩ := hs.int hlt
      rw [← hbel1.cell (by simp; omega)] at h1
      by_cases hxy : y = x
      · have hq := symF_at Hnd.out Hll.out hy hp
        rw [hxy] at hq
        have hsb : symBits (mkWords syms l) x = bitsN p.1 p.2 := by unfold symBits; rw [hq]; rfl
        have Hq := veil hq; have Hsb := veil hsb
        have hbb : (y == x) = true := by simpa using hxy
        have hlt' : (k : Int) < (syms.length : Int) := by omega
        clear hq hsb hp hy hxy
        go_wp2
        go_ret2
        exact ⟨ret_two (by rw [Hsb.out]; rfl) (by rw [Hq.out]; rfl), hbel1⟩
      · have hbb : (y == x) = false := by simpa using hxy
        have Hy := veil hy; have Hxy := veil hxy
        clear hp hy hxy
        go_wp2
        go_roundg (syms.length - (k + 1))
        case rel =>
          refine ⟨k + 1, rfl, by omega, by go_num, veil ?_, rfl⟩
          rw [take_snoc Hy.out]
          intro h
          rcases List.mem_append.1 h with h | h
          · exact HN.out h
          · simp at h; exact Hxy.out h.symm
        case measure => omega
    · obtain rfl : k = syms.length := by omega
      have hx : x ∉ syms := by have := HN.out; rw [List.take_length] at this; exact this
      have hq := symF_none Hll.out hx
      have Hq := veil hq; have Hsb := veil (symBits_none hq)
      clear hq hx
      go_wp2
      go_ret2
      exact ⟨ret_two (by rw [Hsb.out]; rfl) (by rw [Hq.out]; rfl), hbel1⟩
end Go.Proofs.Ytbboakdfnjjddaa

/- What a check of blocks answers, in numbers. No program is named here. -/
namespace Go.Proofs.Ytbboakdfnjjddaa
set_option linter.unusedVariables false
set_option linter.unusedSimpArgs false
set_option maxRecDepth 100000

/-- What a check of blocks answers. -/
def eL (L : List (List Int)) : Int := if 400 < L.length then 2 else if (L.all fun r => inB (-2047) 2047 r) = true then 0 else 1
theorem eL_large {L : List (List Int)} (h : 400 < L.length) : eL L = 2 := if_pos h
theorem eL_bad {L : List (List Int)} (h : ¬ 400 < L.length) {k : Nat} {r : List Int} (hr : L[k]? = some r) (hb : inB (-2047) 2047 r = false) : eL L = 1 := by
  unfold eL
  rw [if_neg h, if_neg]
  intro h2
  have := List.all_eq_true.1 h2 r (List.mem_of_getElem? hr)
  rw [hb] at this; cases this
theorem eL_ok {L : List (List Int)} (h : ¬ 400 < L.length) (hb : ∀ r ∈ L, inB (-2047) 2047 r = true) : eL L = 0 := by
  unfold eL
  rw [if_neg h, if_pos (List.all_eq_true.2 hb)]
theorem eL_zero {L : List (List Int)} (h : eL L = 0) : L.length ≤ 400 ∧ ∀ r ∈ L, inB (-2047) 2047 r = true := by
  unfold eL at h
  split at h
  · cases h
  · split at h
    · rename_i h1 h2; exact ⟨by omega, fun r hr => List.all_eq_true.1 h2 r hr⟩
    · cases h
end Go.Proofs.Ytbboakdfnjjddaa

/- table.Encode: its contract. -/
namespace Go.Proofs.Ytbboakdfnjjddaa
open Go.RowKit
set_option linter.unusedVariables false
set_option linter.unusedSimpArgs false
set_option maxRecDepth 100000

theorem info_field : (Try.prog.info? 69).map (fun i => (i.zero, i.size, i.bytes)) = some (some (.agg #[.int .i64 0, .int .i64 0]), 2, 16) := by kernel_rfl
theorem run_make_fields (n : Nat) (h : n ≤ 1099511627776) (u : World) : ∃ cur, (Instr.makeSlice 65 (.int .i64 0) (.int .i64 (n : Int))).run Try.prog u =
    .ok (.slice (some ⟨u.heap.size, 0, none⟩) 0 n) (u.alloc (.cells cur 69)) ∧ cur.size = n * 2 := by
  obtain ⟨i0, hi, hz0, hz1, hz2⟩ := info_parts info_field
  have h := run_make (P := Try.prog) u 65 69 i0 (.agg #[.int .i64 0, .int .i64 0]) Try.underlying65 hi hz0 .i64 .i64 0 n (by omega) (by omega) (by rw [hz2]; omega) (by omega)
  exact ⟨_, h, by simp [madeCells, hz1, Value.cells]⟩

/-- The fields of symbols. -/
def fieldsOf (ws : List (Int × Nat × Nat)) (xs : List Int) : List (Int × Int) := xs.map fun x => (symF ws x).getD (0, 0)
theorem fieldsOf_snoc {ws : List (Int × Nat × Nat)} {xs : List Int} {k : Nat} {x : Int} (h : xs[k]? = some x) : fieldsOf ws (xs.take (k + 1)) = fieldsOf ws (xs.take k) ++ [(symF ws x).getD (0, 0)] := by
  rw [take_snoc h]; simp [fieldsOf]
def AllIn (ws : List (Int × Nat × Nat)) (xs : List Int) : Prop := ∀ x ∈ xs, (symF ws x).isSome = true
instance (ws : List (Int × Nat × Nat)) (xs : List Int) : Decidable (AllIn ws xs) := by unfold AllIn; infer_instance
def encErr (cs syms xs : List Int) : Int := if checkErr cs syms = 0 then if 20000 < xs.length then 2 else if AllIn (outWords cs syms) xs then 0 else 5 else checkErr cs syms
/-- What Encode makes. -/
def Encd (cs syms xs out : List Int) : Prop := (encErr cs syms xs ≠ 0 → out = []) ∧ (encErr cs syms xs = 0 → Bytes out ∧ ∃ p, p < 8 ∧ unpack out = fieldBits (fieldsOf (outWords cs syms) xs) ++ List.replicate p true)
theorem encd_err {cs syms xs : List Int} (h : encErr cs syms xs ≠ 0) : Encd cs syms xs [] := ⟨fun _ => rfl, fun e => absurd e h⟩
theorem encErr_zero {cs syms xs : List Int} (h : encErr cs syms xs = 0) : checkErr cs syms = 0 ∧ xs.length ≤ 20000 ∧ AllIn (outWords cs syms) xs := by
  unfold encErr at h
  split at h
  · rename_i h1
    split at h
    · cases h
    · rename_i h2
      split at h
      · rename_i h3; exact ⟨h1, by omega, h3⟩
      · cases h
  · rename_i h1; exact absurd h h1
/-- Each word that a symbol has is one of the words. -/
theorem Fine.kr {cs syms : List Int} {l : List (Nat × Nat)} (h : Fine cs syms l) (hcs : cs.length = 16) : Kr 0 l := codes_kr (by rw [nats_length]; exact hcs) h.code
theorem Fine.word {cs syms : List Int} {l : List (Nat × Nat)} (h : Fine cs syms l) (hcs : cs.length = 16) {t : Int × Nat × Nat} (ht : t ∈ mkWords syms l) : (0 ≤ t.1 ∧ t.1 ≤ 255) ∧ (1 ≤ t.2.1 ∧ t.2.1 ≤ 16) ∧ t.2.2 + 1 < 2 ^ t.2.1 := by
  obtain ⟨i, h1, h2⟩ := mem_mkWords ht
  have hm := List.mem_of_getElem? h2
  have := (h.kr hcs).ge _ hm
  exact ⟨h.ok _ (List.mem_of_getElem? h1), ⟨this.1, this.2.1⟩, (h.kr hcs).small hm⟩
theorem fields_ok {cs syms xs : List Int} (hcs : cs.length = 16) (h : encErr cs syms xs = 0) : writeErr (fieldsOf (outWords cs syms) xs) = 0 := by
  obtain ⟨h1, h2, h3⟩ := encErr_zero h
  obtain ⟨l, hf, hw, _⟩ := fine_of h1
  unfold writeErr
  rw [if_neg (by simp [fieldsOf]; omega), if_pos]
  intro f hf2
  simp only [fieldsOf, List.mem_map] at hf2
  obtain ⟨x, hx, rfl⟩ := hf2
  obtain ⟨p, hp⟩ := Option.isSome_iff_exists.1 (h3 x hx)
  rw [hp]
  obtain ⟨t, ht, _, rfl⟩ := symF_mem hp
  rw [hw] at ht
  obtain ⟨_, h5, h6⟩ := hf.word hcs ht
  exact (okF_nat t.2.1 t.2.2).2 ⟨by omega, by omega⟩
theorem fi_small {cs syms : List Int} {l : List (Nat × Nat)} (h : Fine cs syms l) (hcs : cs.length = 16) {t : Int × Nat × Nat} (ht : t ∈ mkWords syms l) : WF t.1 ∧ WF (t.2.1 : Int) ∧ WF (t.2.2 : Int) := by
  obtain ⟨h1, h2, h3⟩ := h.word hcs ht
  have : 2 ^ t.2.1 ≤ 2 ^ 16 := Nat.pow_le_pow_right (by omega) h2.2
  exact ⟨wf_of (by omega), wf_of (by omega), wf_of (by omega)⟩

end Go.Proofs.Ytbboakdfnjjddaa
