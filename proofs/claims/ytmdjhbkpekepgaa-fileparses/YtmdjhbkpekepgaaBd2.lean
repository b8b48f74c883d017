/- Texts shared by the claims of this seat, in one. -/
import Derived.Test.YtmdjhbkpekepgaaBd1
import Derived.Test.YtmdjhbkpekepgaaChecked
import Derived.Lib.OthersKept
import Derived.Deep.WholeRow
import Derived.Test.YtmdjhbkpekepgaaRows
import Derived.BigRegion
/- table.field, table.bySymbol, table.byCodeword: their contracts. -/
namespace Go.Proofs.Ytmdjhbkpekepgaa
open Go.RowKit
set_option linter.unusedVariables false
set_option linter.unusedSimpArgs false
set_option maxRecDepth 100000

theorem World.size_alloc' (w : World) (o : Obj) : (w.alloc o).heap.size = w.heap.size + 1 := by simp
theorem cell_far {w w' : World} {b g o : Nat} {v : Value} (h : w.grownBy w' (some b)) (hne : g ≠ b) (hc : w.cell? ⟨g, o, none⟩ = some v) : w'.cell? ⟨g, o, none⟩ = some v := by
  have hlt := World.block_lt_of_cell? w _ hc
  have := h.block g hlt (by simpa using hne)
  simp only [World.cell?] at hc ⊢
  rw [this]; exact hc
theorem field_any (s n c : Int) (w : World) : Calls Try.prog 46 #[.agg #[.int .i64 s, .int .i64 n, .int .i64 c]] w fun e w' => e = .returned (fv (n, c)) ∧ Below w.heap.size w w' := by
  go_enter Try.func46, Try.ntmps46
  go_wp2
  exact bodyPost_ret (v := fv (n, c)) (results_cell_row rfl _ _ (w.heap.size + 1) 82 #[.int .i64 n, .int .i64 c] (0, 0) _ rfl (by rw [← World.size_alloc' w (.cells #[.int .i64 s, .int .i64 n, .int .i64 c] 80)]; exact heap_alloc_new _ _) Try.underlying82 rfl (by kernel_rfl)) rfl ⟨rfl, below2 _ _ _⟩

abbrev fi (t : Int × Nat × Nat) : Int × Int := ((t.2.1 : Int), (t.2.2 : Int))
def symGo (ws : List (Int × Nat × Nat)) : (Int → Option (Int × Int)) × Nat := ws.foldl (fun st t => (upd st.1 t.1 (fi t), if (st.1 t.1).isSome then st.2 else st.2 + 1)) (fun _ => none, 0)
def symF (ws : List (Int × Nat × Nat)) : Int → Option (Int × Int) := (symGo ws).1
def symS (ws : List (Int × Nat × Nat)) : Nat := (symGo ws).2
theorem symF_snoc (ws : List (Int × Nat × Nat)) (t : Int × Nat × Nat) : symF (ws ++ [t]) = upd (symF ws) t.1 (fi t) := by simp [symF, symGo]
theorem symS_snoc (ws : List (Int × Nat × Nat)) (t : Int × Nat × Nat) : symS (ws ++ [t]) = if (symF ws t.1).isSome then symS ws else symS ws + 1 := by unfold symS symF symGo; rw [List.foldl_append]; rfl
theorem make_map (n : Nat) (w : World) : (Instr.makeMap 72 (some (.int .i64 (n : Int)))).run Try.prog w = .ok (.map (some w.heap.size)) (w.alloc (.map #[] 0)) := by
  simp [Instr.makeMap, run_underlying Try.underlying72, asInt, newObj]
  rfl
set_option maxRecDepth 100000 in
set_option maxHeartbeats 2000000 in
theorem bySymbol_any (A : Option Addr) (c G : Nat) (ws : List (Int × Nat × Nat)) (w : World) (hs : Seen w G A (tripleCells ws)) (hG : G ≤ w.heap.size) (hl : ws.length ≤ 1048576) (hwf : ∀ t ∈ ws, WF t.1) :
    Calls Try.prog 38 #[.slice A ws.length c] w fun e w' => ∃ b, e = .returned (.map (some b)) ∧ w.heap.size ≤ b ∧ MapF w' b ws.length (symF ws) (symS ws) ∧ Below w.heap.size w w' := by
  have hmm := make_map ws.length w
  have Hwf := veil hwf; clear hwf
  go_enter Try.func38, Try.ntmps38
  go_wp2_with fail
  go_loopg [5, 11] ws.length (fun gk p i wr => ∃ k : Nat, gk = ws.length - k ∧ k ≤ ws.length ∧ i = .int .i64 k ∧ MapF wr w.heap.size k (symF (ws.take k)) (symS (ws.take k)) ∧ Below w.heap.size w wr)
  case atStart => exact ⟨0, rfl, Nat.zero_le _, rfl, MapF.made w, below1 _ _⟩
  case round =>
    obtain ⟨k, rfl, hk, rfl, HM, hbel⟩ := hrel
    by_cases hlt : k < ws.length
    · obtain ⟨g, o, s, n, cd, rfl, hg, hx, h1, h2, h3⟩ := hs.triple hlt
      have hz := hbel.size
      rw [← hbel.cell (by simp; omega)] at h1 h2 h3
      have Hx := veil hx; clear hx
      go_wp2_with fail
      have hlen : k < maxLen := by unfold maxLen; omega
      have hwx : WF s := Hwf.out _ (List.mem_of_getElem? Hx.out)
      have Hwx := veil hwx; clear hwx
      have hne : wr.heap.size ≠ w.heap.size := by have := HM.lt; omega
      have HM2 := HM.below (below1 wr (Obj.cells #[Value.int IntKind.i64 s, Value.int IntKind.i64 (n : Int), Value.int IntKind.i64 (cd : Int)] 80)) HM.lt
      have hbel2 := hbel.trans ((below1 wr (Obj.cells #[Value.int IntKind.i64 s, Value.int IntKind.i64 (n : Int), Value.int IntKind.i64 (cd : Int)] 80)).mono hz)
      have c0 : (wr.alloc (Obj.cells #[Value.int IntKind.i64 s, Value.int IntKind.i64 (n : Int), Value.int IntKind.i64 (cd : Int)] 80)).cell? ⟨wr.heap.size, 0, none⟩ = some (.int .i64 s) := by simp
      have c1 : (wr.alloc (Obj.cells #[Value.int IntKind.i64 s, Value.int IntKind.i64 (n : Int), Value.int IntKind.i64 (cd : Int)] 80)).cell? ⟨wr.heap.size, 1, none⟩ = some (.int .i64 (n : Int)) := by simp
      have c2 : (wr.alloc (Obj.cells #[Value.int IntKind.i64 s, Value.int IntKind.i64 (n : Int), Value.int IntKind.i64 (cd : Int)] 80)).cell? ⟨wr.heap.size, 2, none⟩ = some (.int .i64 (cd : Int)) := by simp
      have hsz : wr.heap.size < (wr.alloc (Obj.cells #[Value.int IntKind.i64 s, Value.int IntKind.i64 (n : Int), Value.int IntKind.i64 (cd : Int)] 80)).heap.size := by simp
      generalize wr.alloc (Obj.cells #[Value.int IntKind.i64 s, Value.int IntKind.i64 (n : Int), Value.int IntKind.i64 (cd : Int)] 80) = W at *
      clear h1 h2 h3 HM hbel hs
      generalize wr.heap.size = B at *
      go_region_held3 (fun w' => w'.cell? ⟨B, 0, none⟩ = some (.int .i64 s) ∧ w'.cell? ⟨B, 1, none⟩ = some (.int .i64 (n : Int)) ∧ w'.cell? ⟨B, 2, none⟩ = some (.int .i64 (cd : Int)))
        (first
          | go_keep
          | (go_split_ands
             refine ⟨?_, ?_, ?_⟩
             · (first | (refine (hb1.cell hsz).trans ?_; assumption) | (refine cell_far hgr2 hne ?_; assumption))
             · (first | (refine (hb1.cell hsz).trans ?_; assumption) | (refine cell_far hgr2 hne ?_; assumption))
             · (first | (refine (hb1.cell hsz).trans ?_; assumption) | (refine cell_far hgr2 hne ?_; assumption))))
        (first
          | (go_at_call 46; refine (field_any s n cd _).mono ?_; rintro e w1 ⟨rfl, hb1⟩; obtain ⟨w2, hup, HM3, hgr2⟩ := (HM2.below (below_of_drew hb1) HM2.lt).store hlen Hwx.out ((n : Int), (cd : Int)))
          | fail)
      have hbel3 : Below w.heap.size w w2 := (hbel2.trans ((below_of_drew hb1).mono hbel2.size)).grown hgr2 (Nat.le_trans hbel2.size hb1.size) (fun j hj => by injection hj with hj; omega)
      have HM4 : MapF w2 w.heap.size (k + 1) (symF (ws.take (k + 1))) (symS (ws.take (k + 1))) := by
        rw [take_snoc Hx.out, symF_snoc, symS_snoc]; exact HM3
      clear HM2 HM3 hup hbel2 hb1 hgr2
      go_wp2_with fail
      go_roundg (ws.length - (k + 1))
      case rel => exact ⟨k + 1, rfl, by omega, by go_num, HM4, hbel3⟩
      case measure => omega
    · obtain rfl : k = ws.length := by omega
      rw [List.take_length] at HM
      go_wp2
      go_ret
      exact ⟨_, rfl, Nat.le_refl _, HM, hbel⟩
end Go.Proofs.Ytmdjhbkpekepgaa

/- table.Check and table.Words: their contracts. -/
namespace Go.Proofs.Ytmdjhbkpekepgaa
open Go.RowKit
set_option linter.unusedVariables false
set_option linter.unusedSimpArgs false
set_option maxRecDepth 100000

def nats (cs : List Int) : List Nat := cs.map Int.toNat
theorem nats_length (cs : List Int) : (nats cs).length = cs.length := by simp [nats]
theorem natI_nats {cs : List Int} (h : ∀ x ∈ cs, 0 ≤ x) : natI (nats cs) = cs := by
  unfold natI nats
  rw [List.map_map]
  conv => rhs; rw [← List.map_id cs]
  refine List.map_congr_left fun x hx => ?_
  have := h x hx
  simp; omega
theorem nats_sum {cs : List Int} (h : ∀ x ∈ cs, 0 ≤ x) : ((nats cs).sum : Int) = sumW cs := by
  induction cs with
  | nil => rfl
  | cons x l ih =>
    have h1 := ih fun y hy => h y (by simp [hy])
    have h2 := h x (by simp)
    simp [nats, sumW] at h1 ⊢
    omega
def SymOk (syms : List Int) : Prop := ∀ s ∈ syms, 0 ≤ s ∧ s ≤ 255
instance (syms : List Int) : Decidable (SymOk syms) := by unfold SymOk; infer_instance
/-- What Check says. -/
def checkErr (cs syms : List Int) : Int :=
  if Good cs syms.length then if SymOk syms then if (codes (nats cs)).isSome = true ∧ syms.Nodup then 0 else 4 else 1 else 4
theorem checkErr_form {cs syms : List Int} (h : ¬ Good cs syms.length) : checkErr cs syms = 4 := by unfold checkErr; rw [if_neg h]
theorem checkErr_arg {cs syms : List Int} (h : Good cs syms.length) (h2 : ¬ SymOk syms) : checkErr cs syms = 1 := by unfold checkErr; rw [if_pos h, if_neg h2]
theorem checkErr_bad {cs syms : List Int} (h : Good cs syms.length) (h2 : SymOk syms) (h3 : ¬ ((codes (nats cs)).isSome = true ∧ syms.Nodup)) : checkErr cs syms = 4 := by unfold checkErr; rw [if_pos h, if_pos h2, if_neg h3]
theorem checkErr_ok {cs syms : List Int} (h : Good cs syms.length) (h2 : SymOk syms) (h3 : (codes (nats cs)).isSome = true) (h4 : syms.Nodup) : checkErr cs syms = 0 := by unfold checkErr; rw [if_pos h, if_pos h2, if_pos ⟨h3, h4⟩]
theorem checkErr_zero {cs syms : List Int} (h : checkErr cs syms = 0) : Good cs syms.length ∧ SymOk syms ∧ (codes (nats cs)).isSome = true ∧ syms.Nodup := by
  unfold checkErr at h
  split at h
  · rename_i h1
    split at h
    · rename_i h2
      split at h
      · rename_i h3
        exact ⟨h1, h2, h3.1, h3.2⟩
      · cases h
    · cases h
  · cases h
/-! ### how many symbols a map of them has -/
theorem snoc_ind {α : Type} {p : List α → Prop} (h0 : p []) (h1 : ∀ l a, p l → p (l ++ [a])) (l : List α) : p l := by
  have key : ∀ n (l : List α), l.length = n → p l := by
    intro n
    induction n with
    | zero => intro l h; rw [List.length_eq_zero_iff.1 h]; exact h0
    | succ n ih =>
      intro l h
      obtain ⟨a, b, rfl⟩ := list_snoc l (by intro e; rw [e] at h; cases h)
      exact h1 a b (ih a (by simp at h; omega))
  exact key _ l rfl
theorem symF_some (ws : List (Int × Nat × Nat)) (x : Int) : (symF ws x).isSome = true ↔ x ∈ ws.map (·.1) := by
  induction ws using snoc_ind with
  | h0 => simp [symF, symGo]
  | h1 ws t ih =>
    rw [symF_snoc]
    unfold upd
    by_cases e : x = t.1
    · subst e; simp
    · rw [if_neg e, ih]; simp [e]
theorem symS_nodup (ws : List (Int × Nat × Nat)) : symS ws ≤ ws.length ∧ (symS ws = ws.length ↔ (ws.map (·.1)).Nodup) := by
  induction ws using snoc_ind with
  | h0 => simp [symS, symGo]
  | h1 ws t ih =>
    rw [symS_snoc]
    by_cases h : (symF ws t.1).isSome = true
    · rw [if_pos h]
      have h2 := (symF_some ws t.1).1 h
      refine ⟨by simp; omega, ⟨fun e => by simp at e; omega, fun e => ?_⟩⟩
      rw [List.map_append, List.nodup_append] at e
      exact absurd rfl (e.2.2 _ h2 t.1 (by simp))
    · rw [if_neg h]
      have h2 : t.1 ∉ ws.map (·.1) := fun e => h ((symF_some ws t.1).2 e)
      refine ⟨by simp; omega, ?_⟩
      rw [List.map_append, List.nodup_append, List.length_append, ← ih.2]
      simp only [List.length_cons, List.length_nil, Nat.add_right_cancel_iff]
      refine ⟨fun e => ⟨by omega, by simp, fun a ha b hb => ?_⟩, fun e => by omega⟩
      simp at hb
      subst hb
      intro e2
      subst e2
      exact h2 ha
theorem mkWords_fst {syms : List Int} {l : List (Nat × Nat)} (h : l.length = syms.length) : (mkWords syms l).map (·.1) = syms := by
  unfold mkWords
  apply List.ext_getElem?
  intro i
  rw [List.getElem?_map, List.getElem?_zipWith]
  by_cases hi : i < syms.length
  · rw [List.getElem?_eq_getElem hi, List.getElem?_eq_getElem (by omega : i < l.length)]; rfl
  · rw [List.getElem?_eq_none (by omega : syms.length ≤ i)]; rfl
theorem Good.sum {cs : List Int} {n : Nat} (h : Good cs n) : (nats cs).sum = n := by
  have := nats_sum h.1; have := h.2.2; omega
theorem Good.le {cs : List Int} {n : Nat} (h : Good cs n) : n ≤ 256 := by have := h.2.1; have := h.2.2; omega
theorem notSym {syms : List Int} {k : Nat} {x : Int} (hx : syms[k]? = some x) (h : x < 0 ∨ 255 < x) : ¬ SymOk syms := fun e => by have := e x (List.mem_of_getElem? hx); omega

set_option maxRecDepth 100000 in
set_option maxHeartbeats 2000000 in
theorem check_any (cs syms : List Int) (A : Option Addr) (c G : Nat) (w : World) (hcs : cs.length = 16) (hn : syms.length ≤ maxLen) (hb : ∀ x ∈ cs, -9223372036854775808 ≤ x ∧ x ≤ 9223372036854775807) (hs : Seen w G A (ints .i64 syms)) (hG : G ≤ w.heap.size) :
    Calls Try.prog 21 #[tabV cs A syms.length c] w fun e w' => e = .returned (.int .i64 (checkErr cs syms)) ∧ Below w.heap.size w w' := by
  have h16 : (tabCells cs A syms.length c)[16]? = some (.slice A syms.length c) := tabCells_last hcs
  have hlen17 : (tabCells cs A syms.length c).length = 17 := tabCells_length hcs
  have hcm := fun w => countsMatch_any cs A syms.length c w hcs hn hb
  have has : Hid (Good cs syms.length → ∀ w1, Seen w1 G A (ints .i64 syms) → G ≤ w1.heap.size → Calls Try.prog 37 #[tabV cs A syms.length c] w1 fun e w' => ∃ v, e = .returned (.tuple #[v, .bool (codes (nats cs)).isSome]) ∧ Owns w1.heap.size [wordRow v (tabWords (nats cs) syms)] w' ∧ Below w1.heap.size w1 w') := by
    show _ → _
    intro hg w1 hs1 hG1
    have := assign_any (nats cs) syms A c G w1 (by rw [nats_length]; exact hcs) hg.sum hg.le hs1 hG1
    rw [natI_nats hg.1] at this
    exact this
  unfold maxLen at hn
  have Hcs := veil hcs; have Hb := veil hb
  clear hcs hb
  obtain ⟨xs, hxs⟩ : ∃ xs, xs = tabCells cs A syms.length c := ⟨_, rfl⟩
  have Hr := veil (range_new w xs 27)
  unfold tabV at hcm has ⊢
  rw [← hxs] at h16 hlen17 hcm has ⊢
  clear hxs
  have Hcm := veil hcm; clear hcm
  have H17 := veil hlen17; clear hlen17
  by_cases hgood : Good cs syms.length
  · have hgb : goodB cs syms.length = true := goodB_iff.2 hgood
    have h256 := hgood.le
    have Hg := veil hgood; clear hgood
    have Hgb := veil hgb; clear hgb
    go_enter Try.func21, Try.ntmps21
    go_wp2_with (first
      | (refine wpList_load_mid rfl 27 (.tmp 1) rfl w.heap.size 0 rfl xs _ Hr.out Try.underlying27 rfl (by rw [H17.out]; exact info_tab) ?_)
      | fail)
    refine (Hcm.out _).mono ?_
    rintro e w1 ⟨rfl, hb1⟩
    rw [Hgb.out]
    have c16 : w1.cell? ⟨w.heap.size, 16, none⟩ = some (.slice A syms.length c) := by
      rw [hb1.cell (by simp), World.cell?_alloc_at _ _ _ _ rfl]; simpa using h16
    have hr1 : w1.rangeAt w.heap.size 0 xs := range_below Hr.out hb1 (by simp)
    have hbel1 : Below w.heap.size w w1 := (below1 _ _).trans (hb1.mono (by simp))
    have hz1 := hb1.size
    simp at hz1
    have Hr1 := veil hr1
    clear Hr hr1 hb1 h16
    go_wp2_with fail
    go_loopg [4, 13] syms.length (fun gk x i wr => ∃ k : Nat, gk = syms.length - k ∧ k ≤ syms.length ∧ i = .int .i64 k ∧ Hid (∀ s ∈ syms.take k, 0 ≤ s ∧ s ≤ 255) ∧ wr = w1)
    case atStart => exact ⟨0, rfl, Nat.zero_le _, rfl, veil (by simp), rfl⟩
    case round =>
      obtain ⟨k, rfl, hk, rfl, HP, rfl⟩ := hrel
      by_cases hlt : k < syms.length
      · obtain ⟨g, o, x, rfl, hg, hx, h1⟩ := hs.int hlt
        rw [← hbel1.cell (by simp; omega)] at h1
        have Hx := veil hx; clear hx
        by_cases hx0 : x < 0
        · have He := veil (checkErr_arg Hg.out (notSym Hx.out (.inl hx0)))
          go_wp2
          go_ret
          exact ⟨by rw [He.out]; rfl, hbel1⟩
        · by_cases hx1 : 255 < x
          · have He := veil (checkErr_arg Hg.out (notSym Hx.out (.inr hx1)))
            go_wp2
            go_ret
            exact ⟨by rw [He.out]; rfl, hbel1⟩
          · go_wp2
            go_roundg (syms.length - (k + 1))
            case rel => exact ⟨k + 1, rfl, by omega, by go_num, veil (mem_snoc Hx.out HP.out (by omega)), rfl⟩
            case measure => omega
      · obtain rfl : k = syms.length := by omega
        have hsok : SymOk syms := by have := HP.out; rw [List.take_length] at this; exact this
        have Hs := veil hsok; clear hsok
        go_wp2_with (first
          | (refine wpList_load_mid rfl 27 (.tmp 1) rfl w.heap.size 0 rfl xs _ Hr1.out Try.underlying27 rfl (by rw [H17.out]; exact info_tab) ?_)
          | fail)
        refine (has.out Hg.out _ (hs.below hbel1 hG) (by omega)).mono ?_
        rintro e w2 ⟨v, rfl, HO, hb2⟩
        have hbel2 := hbel1.trans (hb2.mono (by omega))
        cases hco : codes (nats cs) with
        | none =>
          have He := veil (checkErr_bad Hg.out Hs.out (fun h => by rw [hco] at h; cases h.1))
          simp only [Option.isSome_none]
          go_wp2
          go_ret
          exact ⟨by rw [He.out]; rfl, hbel2⟩
        | some l =>
          simp only [Option.isSome_some]
          have hll : l.length = syms.length := (codes_length hco).trans Hg.out.sum
          have hw : tabWords (nats cs) syms = mkWords syms l := by unfold tabWords; rw [hco]; rfl
          rw [hw] at HO
          have hwl : (mkWords syms l).length = syms.length := by rw [mkWords_length _ _ (by omega), hll]
          have hfst := mkWords_fst hll
          have hnd := symS_nodup (mkWords syms l)
          rw [hfst] at hnd
          have hwf : ∀ t ∈ mkWords syms l, WF t.1 := by
            intro t ht
            have h1 : t.1 ∈ syms := by rw [← hfst]; exact List.mem_map_of_mem ht
            have := Hs.out _ h1
            exact wf_of (by omega)
          have Hwf := veil hwf
          obtain ⟨A5, c5, e5, hs5, _, _⟩ := HO.seen (List.mem_cons_self ..)
          simp only [wordRow] at e5 hs5
          rw [hwl] at e5 hnd
          subst e5
          have Hwl := veil hwl; have Hnd := veil hnd; have Hco := veil hco
          clear hwl hnd hfst hw hll hwf hco HO
          have hby := fun w0 (h : Seen w0 w2.heap.size A5 (tripleCells (mkWords syms l))) hG0 => bySymbol_any A5 c5 w2.heap.size (mkWords syms l) w0 h hG0 (by rw [Hwl.out]; omega) Hwf.out
          rw [Hwl.out] at hby
          have Hby := veil hby; clear hby
          generalize mkWords syms l = ws at *
          have hcn : (codes (nats cs)).isSome = true := by rw [Hco.out]; rfl
          have Hcn := veil hcn; clear hcn
          generalize hS : symS ws = S at *
          have Hle : S ≤ syms.length := Hnd.out.1
          go_wp2_with fail
          refine (Hby.out _ hs5 (Nat.le_refl _)).mono ?_
          rintro e w3 ⟨b, rfl, hbb, HM, hb3⟩
          have hml := fun ty => HM.len ty
          have hbel3 := hbel2.trans (hb3.mono hbel2.size)
          by_cases hnd : syms.Nodup
          · have He := veil (checkErr_ok Hg.out Hs.out Hcn.out hnd)
            have hSl := Hnd.out.2.2 hnd
            have hSl' : ¬ (S : Int) < (syms.length : Int) := by omega
            clear hSl hnd HM hs5
            go_wp2
            go_ret
            exact ⟨by rw [He.out]; rfl, hbel3⟩
          · have He := veil (checkErr_bad Hg.out Hs.out fun h => hnd h.2)
            have hSl : S ≠ syms.length := fun e => hnd (Hnd.out.2.1 e)
            have hSl' : (S : Int) < (syms.length : Int) := by omega
            clear hSl hnd HM hs5
            go_wp2
            go_ret
            exact ⟨by rw [He.out]; rfl, hbel3⟩
  · have hgb : goodB cs syms.length = false := goodB_no hgood
    have He := veil (checkErr_form hgood)
    have Hgb := veil hgb; clear hgb hgood
    go_enter Try.func21, Try.ntmps21
    go_wp2_with (first
      | (refine wpList_load_mid rfl 27 (.tmp 1) rfl w.heap.size 0 rfl xs _ Hr.out Try.underlying27 rfl (by rw [H17.out]; exact info_tab) ?_)
      | fail)
    refine (Hcm.out _).mono ?_
    rintro e w1 ⟨rfl, hb1⟩
    rw [Hgb.out]
    go_wp2
    go_ret
    exact ⟨by rw [He.out]; rfl, (below1 _ _).trans (hb1.mono (by simp))⟩
end Go.Proofs.Ytmdjhbkpekepgaa

/- table.Words: its contract. -/
namespace Go.Proofs.Ytmdjhbkpekepgaa
open Go.RowKit
set_option linter.unusedVariables false
set_option linter.unusedSimpArgs false
set_option maxRecDepth 100000

end Go.Proofs.Ytmdjhbkpekepgaa

/- Two small facts on numbers. -/
namespace Go.Proofs.Ytmdjhbkpekepgaa
open Go.RowKit
theorem wrap64_nat (n : Nat) (h : n < 9223372036854775808) : wrap64 (n : Int) = n := by unfold wrap64; omega
theorem two_pow_lt (a b : Nat) (h : a ≤ b) : 2 ^ a ≤ 2 ^ b := Nat.pow_le_pow_right (by omega) h
end Go.Proofs.Ytmdjhbkpekepgaa

/- The reference's binary digits: texts of zeros and ones. -/
namespace Go.Proofs.Ytmdjhbkpekepgaa
open Go.RowKit
set_option linter.unusedVariables false
set_option linter.unusedSimpArgs false
set_option maxRecDepth 100000

def digB (b : Bool) : UInt8 := if b then 49 else 48
def dig (l : List Bool) : List UInt8 := l.map digB
/-- The text of these digits. -/
def txt (l : List Bool) : ByteArray := ⟨(dig l).toArray⟩
theorem txt_append (a b : List Bool) : txt a ++ txt b = txt (a ++ b) := by
  apply ByteArray.ext; simp [txt, dig]
theorem txt_size (l : List Bool) : (txt l).size = l.length := by simp [txt, dig, ByteArray.size]

theorem enc_bit (q : Nat) : Utf8.encode (48 + (q : Int) % 2) = txt [decide (q % 2 = 1)] := by
  rcases Nat.mod_two_eq_zero_or_one q with h | h
  · have e : (q : Int) % 2 = 0 := by omega
    rw [e, h]; decide +kernel
  · have e : (q : Int) % 2 = 1 := by omega
    rw [e, h]; decide +kernel

theorem outside_any (n lo hi : Int) (w : World) : Calls Try.prog 22 #[.int .i64 n, .int .i64 lo, .int .i64 hi] w fun e w' => e = .returned (.bool (!(decide (lo ≤ n) && decide (n ≤ hi)))) ∧ w = w' := by
  have Hd : Hid (∀ b, b = (!(decide (lo ≤ n) && decide (n ≤ hi))) → b = (!(decide (lo ≤ n) && decide (n ≤ hi)))) := fun b h => h
  generalize hB : (!(decide (lo ≤ n) && decide (n ≤ hi))) = B at *
  have HB := veil hB; clear hB
  by_cases h1 : n < lo <;> by_cases h2 : hi < n <;>
  · go_enter Try.func22, Try.ntmps22
    go_wp2
    go_ret
    exact ⟨ret_bool (by rw [← HB.out]; symm; simp; omega), rfl⟩

set_option maxHeartbeats 400000 in
theorem binary_any (k n : Nat) (w : World) (hk : k ≤ 64) (hn : n < 9223372036854775808) :
    Calls Try.prog 51 #[.int .i64 k, .int .i64 n] w fun e w' => e = .returned (.string (txt (bitsN k n))) ∧ w = w' := by
  go_enter Try.func51, Try.ntmps51
  go_wp2_with fail
  go_loopg [1, 5, 7] k (fun gk nv s i wr => ∃ j : Nat, gk = k - j ∧ j ≤ k ∧ i = .int .i64 j ∧ nv = .int .i64 (n / 2 ^ j : Nat) ∧ s = .string (txt (bitsN j n)) ∧ w = wr)
  case atStart => exact ⟨0, rfl, Nat.zero_le _, rfl, by simp, rfl, rfl⟩
  case round =>
    obtain ⟨j, rfl, hj, rfl, rfl, rfl, rfl⟩ := hrel
    have hq : n / 2 ^ j < 9223372036854775808 := Nat.lt_of_le_of_lt (Nat.div_le_self _ _) hn
    by_cases hlt : j < k
    · generalize hQ : n / 2 ^ j = q at *
      have HQ := veil hQ; clear hQ
      have henc := enc_bit q
      have hsz : (Utf8.encode (48 + (q : Int) % 2)).size + (txt (bitsN j n)).size ≤ 9223372036854775807 := by
        rw [henc, txt_size, txt_size, bitsN_length]; simp; omega
      have Henc := veil henc; clear henc
      go_wp2
      go_roundg (k - (j + 1))
      case rel => exact ⟨j + 1, rfl, by omega, by go_num, by rw [Nat.pow_succ, ← Nat.div_div_eq_div_mul, HQ.out]; go_num, by rw [Henc.out, txt_append, ← HQ.out, Nat.add_comm j 1, bitsN_add]; rfl, rfl⟩
      case measure => omega
    · obtain rfl : j = k := by omega
      go_wp2
      go_ret
      exact ⟨rfl, rfl⟩
end Go.Proofs.Ytmdjhbkpekepgaa

/- The reference's power and outside. -/
namespace Go.Proofs.Ytmdjhbkpekepgaa
open Go.RowKit
set_option linter.unusedVariables false
set_option linter.unusedSimpArgs false
set_option maxRecDepth 100000

theorem power_any (k : Nat) (w : World) (h : k ≤ 24) : Calls Try.prog 50 #[.int .i64 k] w fun e w' => e = .returned (.int .i64 (2 ^ k : Nat)) ∧ w = w' := by
  go_enter Try.func50, Try.ntmps50
  go_wp2
  go_ret
  refine ⟨?_, rfl⟩
  have h1 : 2 ^ k ≤ 2 ^ 24 := two_pow_lt _ _ h
  have e : wrap64 ((2 : Int) ^ k) = ((2 ^ k : Nat) : Int) := by rw [show ((2 : Int) ^ k) = ((2 ^ k : Nat) : Int) by simp]; exact wrap64_nat _ (by omega)
  exact congrArg (fun x => Ending.returned (.int .i64 x)) e

theorem outside_yes (n lo hi : Int) (h : n < lo ∨ hi < n) (w : World) : Calls Try.prog 22 #[.int .i64 n, .int .i64 lo, .int .i64 hi] w fun e w' => e = .returned (.bool true) ∧ w' = w :=
  (outside_any n lo hi w).mono fun e w' h2 => ⟨by rw [h2.1]; refine ret_bool ?_; simp; omega, h2.2.symm⟩
theorem outside_no (n lo hi : Int) (h : lo ≤ n ∧ n ≤ hi) (w : World) : Calls Try.prog 22 #[.int .i64 n, .int .i64 lo, .int .i64 hi] w fun e w' => e = .returned (.bool false) ∧ w' = w :=
  (outside_any n lo hi w).mono fun e w' h2 => ⟨by rw [h2.1]; refine ret_bool ?_; simp; omega, h2.2.symm⟩
end Go.Proofs.Ytmdjhbkpekepgaa

/- The reference's words of a table, as binary digits. -/
namespace Go.Proofs.Ytmdjhbkpekepgaa
open Go.RowKit
set_option linter.unusedVariables false
set_option linter.unusedSimpArgs false
set_option maxRecDepth 100000

theorem elem_str : ElemOf Try.prog 85 9 1 16 := .mk' (z := .string .empty) Try.underlying85 (by kernel_rfl) rfl (by omega)
def strs (l : List (Nat × Nat)) : List Value := l.map fun p => .string (txt (bitsN p.1 p.2))
abbrev strRow (v : Value) (l : List (Nat × Nat)) : Row := ⟨9, 1, v, l.length, strs l⟩
theorem strRow_snoc (v : Value) (l : List (Nat × Nat)) (p : Nat × Nat) : (⟨9, 1, v, l.length + [Value.string (txt (bitsN p.1 p.2))].length, strs l ++ [.string (txt (bitsN p.1 p.2))]⟩ : Row) = strRow v (l ++ [p]) := by simp [strRow, strs]

set_option maxRecDepth 100000 in
set_option maxHeartbeats 2000000 in
theorem refWordsOf_any (ns : List Nat) (A : Option Addr) (n c : Nat) (w : World) (hns : ns.length = 16) (hsum : ns.sum ≤ 256) :
    Calls Try.prog 48 #[tabV (natI ns) A n c] w fun e w' => ∃ v, e = .returned (.tuple #[v, .bool (codes ns).isSome]) ∧ Owns w.heap.size [strRow v ((codes ns).getD [])] w' ∧ Below w.heap.size w w' := by
  have hcs : (natI ns).length = 16 := by rw [natI_length]; exact hns
  have hr : Hid (∀ xs, xs = tabCells (natI ns) A n c → (w.alloc (.cells xs.toArray 27)).rangeAt w.heap.size 0 (ints .i64 (natI ns))) := by
    show ∀ xs, _
    intro xs e
    subst e
    exact range_left (range_new w _ _)
  have Hcs := veil hcs; have Hns := veil hns; have Hsum := veil hsum
  clear hcs hns hsum
  obtain ⟨xs, hxs⟩ : ∃ xs, xs = tabCells (natI ns) A n c := ⟨_, rfl⟩
  have Hr := veil (hr.out xs hxs)
  unfold tabV
  rw [← hxs]
  clear hr hxs
  go_enter Try.func48, Try.ntmps48
  go_wp2_with (first
    | (refine wpList_load_mid rfl 24 (.tmp 8) rfl w.heap.size 0 rfl (ints .i64 (natI ns)) _ Hr.out Try.underlying24 rfl (by rw [ints_length, Hcs.out]; exact info_arr) ?_)
    | fail)
  go_loopg [4, 5, 6, 7, 10] 16 (fun gk v cv kv nv i wr => ∃ (k cd : Nat) (acc : List (Nat × Nat)), gk = 16 - k ∧ k ≤ 16 ∧ i = .int .i64 k ∧ cv = .int .i64 cd ∧ Hid (CInv ns k (2 * cd) acc) ∧ Owns w.heap.size [strRow v acc] wr ∧ Below w.heap.size w wr)
  case atStart => exact ⟨0, 0, [], rfl, by omega, rfl, rfl, veil (CInv.start ns), (Owns.nil (by simp)).fresh _ _, below1 _ _⟩
  case round =>
    obtain ⟨k, cd0, acc, rfl, hk, rfl, rfl, HI, HO, hbel⟩ := hrel
    by_cases hlt : k < 16
    · obtain ⟨q, hq⟩ := some_at (xs := ns) (j := k) (by rw [Hns.out]; omega)
      have hcd := HI.out.2.1
      have hp16 : 2 ^ (k + 1) ≤ 2 ^ 16 := Nat.pow_le_pow_right (by omega) (by omega)
      have hacc : acc.length + q ≤ 256 := by
        have h1 := take_sum hq
        have h2 : (ns.take (k + 1)).sum + (ns.drop (k + 1)).sum = ns.sum := by rw [← List.sum_append, List.take_append_drop]
        have := Hsum.out
        have := HI.out.2.2
        omega
      obtain ⟨cd, hcd0⟩ : ∃ cd, cd = 2 * cd0 := ⟨_, rfl⟩
      rw [← hcd0] at HI hcd
      have Hn := veil hq; have Hcd := veil hcd; have Hp16 := veil hp16
      have hcd2 : cd < 65536 := by omega
      have hq2 : q ≤ 256 := by omega
      have hw2 : (cd0 : Int) * 2 = (cd : Int) := by omega
      have Hcd0 := veil hcd0
      clear hq hcd hp16 hcd0
      go_wp2_with (first
        | (refine wpList_index_arr rfl 24 (.tmp 9) (.tmp 10) rfl 16 3 .i64 Try.underlying24 Try.underlying3 info_int1 (ints .i64 (natI ns)) rfl .i64 k rfl (.int .i64 (q : Int)) hlt (ints_at (natI_at Hn.out)) ?_)
        | fail)
      obtain ⟨N, hN⟩ : ∃ N, N = 2 ^ (k + 1) - 1 := ⟨_, rfl⟩
      have hN2 : N < 65536 := by have := Hp16.out; omega
      have HN := veil hN
      have hpw := fun w => power_any (k + 1) w (by omega)
      have hp0 : 0 < 2 ^ (k + 1) := Nat.pow_pos (by omega)
      have hN1 : 2 ^ (k + 1) = N + 1 := by omega
      rw [hN1] at hpw
      clear hN hp0 hN1
      have Hpw := veil hpw; clear hpw
      go_loopg [4, 5, 17] q (fun gk v cv i wr2 => ∃ j : Nat, gk = q - j ∧ j ≤ q ∧ i = .int .i64 j ∧ cv = .int .i64 ((cd + j : Nat) : Int) ∧ Hid (cd + j ≤ N) ∧ Owns w.heap.size [strRow v (acc ++ wordsTo k cd j)] wr2 ∧ Below w.heap.size w wr2)
      case atStart => exact ⟨0, rfl, Nat.zero_le _, rfl, by go_num, veil (by have := Hcd.out; have := HN.out; omega), by simpa [wordsTo] using HO, hbel⟩
      case round =>
        obtain ⟨j, rfl, hj, rfl, rfl, HJ, HO2, hbel2⟩ := hrel
        have hz2 := hbel2.size
        by_cases hjn : j < q
        · have hpw := Hpw.out wr
          rw [show (((k + 1 : Nat)) : Int) = (k : Int) + 1 from rfl, show (((N + 1 : Nat)) : Int) = (N : Int) + 1 from rfl] at hpw
          have Hp := veil hpw; clear hpw
          by_cases hf : N ≤ cd + j
          · have hd := HI.out.fail Hn.out hjn (by rw [← HN.out]; exact hf)
            have Hd := veil hd; clear hd
            have hf' : (N : Int) ≤ (cd : Int) + j := by omega
            go_wp2_with fail
            refine Hp.out.mono ?_
            rintro e w3 ⟨rfl, rfl⟩
            go_wp2
            go_ret2
            exact ⟨_, ret_two rfl (by rw [Hd.out]; rfl), by rw [Hd.out]; exact (Owns.nil hbel2.size).fresh _ _, hbel2⟩
          · have hf' : ¬ (N : Int) ≤ (cd : Int) + j := by omega
            have hbn := binary_any (k + 1) (cd + j) wr (by omega) (by omega)
            rw [show (((k + 1 : Nat)) : Int) = (k : Int) + 1 from rfl, show (((cd + j : Nat)) : Int) = (cd : Int) + j from rfl] at hbn
            have Hbn := veil hbn; clear hbn
            have hlen : (acc ++ wordsTo k cd j).length = acc.length + j := by rw [List.length_append, wordsTo_length]
            have hap : acc ++ wordsTo k cd (j + 1) = (acc ++ wordsTo k cd j) ++ [(k + 1, cd + j)] := by rw [wordsTo_snoc, List.append_assoc]
            have Hlen := veil hlen; have Hap := veil hap
            clear hlen hap
            generalize acc ++ wordsTo k cd j = ws at *
            go_wp2_with fail
            refine Hp.out.mono ?_
            rintro e w3 ⟨rfl, rfl⟩
            go_wp2_with fail
            refine Hbn.out.mono ?_
            rintro e w3 ⟨rfl, rfl⟩
            go_wp2_with (first
              | (at_builtin; go_loud (refine wpList_ownN _ rfl (.tmp 25) (.tmp 30) _ rfl w.heap.size 9 16 elem_str u4 ws.length (strs ws) [] rfl HO2 [.string (txt (bitsN (k + 1) (cd + j)))] rfl (by simp [Value.oneCell']) (by have := Hlen.out; unfold maxLen; simp; omega) (by have := Hlen.out; simp; omega) ?_); intro v1 w1 HO3 hb3 hz3))
            rw [strRow_snoc _ _ (k + 1, cd + j)] at HO3
            go_roundg (q - (j + 1))
            case rel => exact ⟨j + 1, rfl, by omega, by go_num, by go_num, veil (by omega), by rw [Hap.out]; exact HO3, hbel2.trans hb3⟩
            case measure => omega
        · obtain rfl : j = q := by omega
          go_wp2
          go_roundg (16 - (k + 1))
          case rel => exact ⟨k + 1, cd + j, acc ++ wordsTo k cd j, rfl, by omega, by go_num, rfl, veil (HI.out.next Hn.out (by rw [← HN.out]; exact HJ.out)), HO2, hbel2⟩
          case measure => omega
    · obtain rfl : k = 16 := by omega
      have hd : codes ns = some acc := by have h := HI.out; rw [← Hns.out] at h; exact h.done
      have Hd := veil hd; clear hd
      go_wp2
      go_ret2
      exact ⟨_, ret_two rfl (by rw [Hd.out]; rfl), by rw [Hd.out]; exact HO, hbel⟩
end Go.Proofs.Ytmdjhbkpekepgaa

/- The reference's Has at numbers. -/
namespace Go.Proofs.Ytmdjhbkpekepgaa
open Go.RowKit
set_option linter.unusedVariables false
set_option linter.unusedSimpArgs false
set_option maxRecDepth 100000

theorem hasInt (A : Option Addr) (c G : Nat) (xs : List Int) (y : Int) (w : World) (hx : Seen w G A (ints .i64 xs)) (hl : xs.length ≤ maxLen) :
    Calls Try.prog 47 #[.slice A xs.length c, .int .i64 y] w fun e w' => e = .returned (.bool (decide (y ∈ xs))) ∧ w = w' := by
  unfold maxLen at hl
  go_enter Try.func47, Try.ntmps47
  go_wp2_with fail
  go_loopg [6, 9] xs.length (fun gk v i wr => ∃ k : Nat, gk = xs.length - k ∧ k ≤ xs.length ∧ i = .int .i64 k ∧ Hid (y ∉ xs.take k) ∧ w = wr)
  case atStart => exact ⟨0, rfl, Nat.zero_le _, rfl, veil (by simp), rfl⟩
  case round =>
    obtain ⟨k, rfl, hk, rfl, HN, rfl⟩ := hrel
    by_cases hlt : k < xs.length
    · obtain ⟨g, o, x, rfl, _, hxk, h1⟩ := hx.int hlt
      have Hx := veil hxk; clear hxk
      by_cases hxy : y = x
      · have hb : (y == x) = true := by simpa using hxy
        have hm : y ∈ xs := by rw [hxy]; exact List.mem_of_getElem? Hx.out
        have Hd := veil (decide_eq_true hm)
        clear hxy hm
        go_wp2
        go_ret
        exact ⟨ret_bool Hd.out.symm, rfl⟩
      · have hb : (y == x) = false := by simpa using hxy
        have Hxy := veil hxy; clear hxy
        go_wp2
        go_roundg (xs.length - (k + 1))
        case rel =>
          refine ⟨k + 1, rfl, by omega, by go_num, veil ?_, rfl⟩
          rw [take_snoc Hx.out]
          intro h
          rcases List.mem_append.1 h with h | h
          · exact HN.out h
          · simp at h; exact Hxy.out h
        case measure => omega
    · obtain rfl : k = xs.length := by omega
      have hm : y ∉ xs := by have := HN.out; rw [List.take_length] at this; exact this
      have Hd := veil (decide_eq_false hm)
      clear hm
      go_wp2
      go_ret
      exact ⟨ret_bool Hd.out.symm, rfl⟩
end Go.Proofs.Ytmdjhbkpekepgaa

/- The reference's check of a table: the same contract as Check's. -/
namespace Go.Proofs.Ytmdjhbkpekepgaa
open Go.RowKit
set_option linter.unusedVariables false
set_option linter.unusedSimpArgs false
set_option maxRecDepth 100000

theorem run_take_ints (A : Option Addr) (n c h : Nat) (h2 : h ≤ c) (u : World) : (Instr.sliceAt 25 (.slice A n c) none (some (.int .i64 (h : Int))) none).run Try.prog u = .ok (.slice A h c) u := by
  have he : Try.prog.underlying 25 = some (.slice (Try.prog.elem 25)) := by kernel_rfl
  have hz : (sizeOf (Try.prog.elem 25)).run Try.prog u = .ok 1 u := by kernel_rfl
  rw [run_sliceAt_slice _ _ _ _ _ _ he, run_slice_h _ _ _ _ _ he _ _ (by omega) (by omega), hz]
  cases A <;> simp [Result.andThen, sliced, Addr.add]
theorem notGood_sum {cs : List Int} {n k : Nat} (h0 : ∀ x ∈ cs.take k, 0 ≤ x) (h : 256 < sumW (cs.take k)) : ¬ Good cs n := by
  rintro ⟨h1, h2, h3⟩
  have e : sumW cs = sumW (cs.take k) + sumW (cs.drop k) := by
    conv => lhs; rw [← List.take_append_drop k cs, sumW_app]
  have h5 := sumW_pos (cs.drop k) fun y hy => h1 y (List.mem_of_mem_drop hy)
  omega
theorem dup_snoc {syms : List Int} {k : Nat} {x : Int} (hx : syms[k]? = some x) (h : (syms.take k).Nodup) (hn : x ∉ syms.take k) : (syms.take (k + 1)).Nodup := by
  rw [take_snoc hx, List.nodup_append]
  refine ⟨h, by simp, fun a ha b hb => ?_⟩
  simp at hb
  subst hb
  intro e
  subst e
  exact hn ha
theorem dup_stop {syms : List Int} {k : Nat} {x : Int} (hx : syms[k]? = some x) (hn : x ∈ syms.take k) : ¬ syms.Nodup := by
  intro h
  have e : syms = syms.take (k + 1) ++ syms.drop (k + 1) := (List.take_append_drop _ _).symm
  rw [e, List.nodup_append, take_snoc hx, List.nodup_append] at h
  exact h.1.2.2 x hn x (by simp) rfl

set_option maxRecDepth 100000 in
set_option maxHeartbeats 2000000 in
theorem refCheck_any (cs syms : List Int) (A : Option Addr) (c G : Nat) (w : World) (hcs : cs.length = 16) (hn : syms.length ≤ maxLen) (hcap : syms.length ≤ c) (hb : ∀ x ∈ cs, -9223372036854775808 ≤ x ∧ x ≤ 9223372036854775807) (hs : Seen w G A (ints .i64 syms)) (hG : G ≤ w.heap.size) :
    Calls Try.prog 39 #[tabV cs A syms.length c] w fun e w' => e = .returned (.int .i64 (checkErr cs syms)) ∧ Below w.heap.size w w' := by
  have h16 : (tabCells cs A syms.length c)[16]? = some (.slice A syms.length c) := tabCells_last hcs
  have hlen17 : (tabCells cs A syms.length c).length = 17 := tabCells_length hcs
  have hr : Hid (∀ xs, xs = tabCells cs A syms.length c → (w.alloc (.cells xs.toArray 27)).rangeAt w.heap.size 0 (ints .i64 cs)) := by
    show ∀ xs, _
    intro xs e
    subst e
    exact range_left (range_new w _ _)
  have hwo : Hid (Good cs syms.length → ∀ w1, Calls Try.prog 48 #[tabV cs A syms.length c] w1 fun e w' => ∃ v, e = .returned (.tuple #[v, .bool (codes (nats cs)).isSome]) ∧ Owns w1.heap.size [strRow v ((codes (nats cs)).getD [])] w' ∧ Below w1.heap.size w1 w') := by
    show _ → _
    intro hg w1
    have := refWordsOf_any (nats cs) A syms.length c w1 (by rw [nats_length]; exact hcs) (by rw [hg.sum]; exact hg.le)
    rw [natI_nats hg.1] at this
    exact this
  have Hn := veil hn
  unfold maxLen at hn
  have Hb := veil hb
  have Hcs := veil hcs
  clear hb hcs
  obtain ⟨xs, hxs⟩ : ∃ xs, xs = tabCells cs A syms.length c := ⟨_, rfl⟩
  have Hr := veil (hr.out xs hxs)
  have Hrw := veil (range_new w xs 27)
  unfold tabV at hwo ⊢
  rw [← hxs] at h16 hlen17 hwo ⊢
  have H17 := veil hlen17
  clear hr hxs hlen17
  go_enter Try.func39, Try.ntmps39
  go_wp2_with (first
    | (refine wpList_load_mid rfl 24 (.tmp 12) rfl w.heap.size 0 rfl (ints .i64 cs) _ Hr.out Try.underlying24 rfl (by rw [ints_length, Hcs.out]; exact info_arr) ?_)
    | fail)
  have c16 : (w.alloc (.cells xs.toArray 27)).cell? ⟨w.heap.size, 16, none⟩ = some (.slice A syms.length c) := by rw [World.cell?_alloc_at _ _ _ _ rfl]; simpa using h16
  have hsW := hs.alloc hG (.cells xs.toArray 27)
  have hbW := below1 w (.cells xs.toArray 27)
  have hzW : w.heap.size < (w.alloc (.cells xs.toArray 27)).heap.size := by simp
  generalize w.alloc (.cells xs.toArray 27) = W at *
  clear h16 hs Hr
  go_loopg [3, 5, 14] 16 (fun gk s x i wr => ∃ k : Nat, gk = 16 - k ∧ k ≤ 16 ∧ i = .int .i64 k ∧ (∃ z : Int, s = .int .i64 z ∧ Hid (z = sumW (cs.take k)) ∧ 0 ≤ z ∧ z ≤ 256 * k) ∧ Hid (∀ x ∈ cs.take k, 0 ≤ x) ∧ W = wr)
  case atStart => exact ⟨0, rfl, by omega, rfl, ⟨0, rfl, veil rfl, by omega, by omega⟩, veil (by simp), rfl⟩
  case round =>
    obtain ⟨k, rfl, hk, rfl, ⟨z, rfl, Hz, hz0, hz1⟩, Hp, rfl⟩ := hrel
    by_cases hlt : k < 16
    · obtain ⟨x, hx⟩ := some_at (xs := cs) (j := k) (by rw [Hcs.out]; omega)
      have hxb := Hb.out x (List.mem_of_getElem? hx)
      have Hx := veil hx; clear hx
      by_cases hout : x < 0 ∨ 256 < x
      · have hg : ¬ Good cs syms.length := by
          rcases hout with h | h
          · exact good_stop Hx.out (.inl h)
          · exact good_stop Hx.out (.inr (by have := Hz.out; omega))
        have He := veil (checkErr_form hg)
        have Ho := veil (outside_yes x 0 256 hout W)
        clear hg hout
        go_wp2_with (first
          | (refine wpList_index_arr rfl 24 (.tmp 13) (.tmp 14) rfl 16 3 .i64 Try.underlying24 Try.underlying3 info_int1 (ints .i64 cs) rfl .i64 k rfl (.int .i64 x) hlt (ints_at Hx.out) ?_)
          | fail)
        refine Ho.out.mono ?_
        rintro e w3 ⟨rfl, rfl⟩
        go_wp2
        go_ret
        exact ⟨by rw [He.out]; rfl, hbW⟩
      · have hin : 0 ≤ x ∧ x ≤ 256 := by omega
        have Ho := veil (outside_no x 0 256 hin W)
        clear hout
        by_cases hz256 : 256 < z
        · have hg : ¬ Good cs syms.length := notGood_sum Hp.out (by rw [← Hz.out]; exact hz256)
          have He := veil (checkErr_form hg)
          clear hg
          go_wp2_with (first
            | (refine wpList_index_arr rfl 24 (.tmp 13) (.tmp 14) rfl 16 3 .i64 Try.underlying24 Try.underlying3 info_int1 (ints .i64 cs) rfl .i64 k rfl (.int .i64 x) hlt (ints_at Hx.out) ?_)
            | fail)
          refine Ho.out.mono ?_
          rintro e w3 ⟨rfl, rfl⟩
          go_wp2
          go_ret
          exact ⟨by rw [He.out]; rfl, hbW⟩
        · have hw : IntKind.i64.wrap (z + x) = z + x := by rw [IntKind.wrap_i64]; omega
          go_wp2_with (first
            | (refine wpList_index_arr rfl 24 (.tmp 13) (.tmp 14) rfl 16 3 .i64 Try.underlying24 Try.underlying3 info_int1 (ints .i64 cs) rfl .i64 k rfl (.int .i64 x) hlt (ints_at Hx.out) ?_)
            | fail)
          refine Ho.out.mono ?_
          rintro e w3 ⟨rfl, rfl⟩
          go_wp2
          go_roundg (16 - (k + 1))
          case rel => exact ⟨k + 1, rfl, by omega, by go_num, ⟨z + x, by go_num, veil (by rw [sumW_take Hx.out, ← Hz.out]), by omega, by omega⟩, veil (mem_snoc Hx.out Hp.out (by omega)), rfl⟩
          case measure => omega
    · obtain rfl : k = 16 := by omega
      have e : cs.take 16 = cs := by rw [List.take_of_length_le]; rw [Hcs.out]; omega
      have h3 := Hp.out
      have h4 := Hz.out
      rw [e] at h3 h4
      have H3 := veil h3; have H4 := veil h4
      clear e h3 h4
      by_cases hz256 : 256 < z
      · have hg : ¬ Good cs syms.length := fun h => by have := h.2.1; have := H4.out; omega
        have He := veil (checkErr_form hg)
        clear hg
        go_wp2
        go_ret
        exact ⟨by rw [He.out]; rfl, hbW⟩
      · by_cases hzn : z = (syms.length : Int)
        · have hg : Good cs syms.length := ⟨H3.out, by have := H4.out; omega, by have := H4.out; omega⟩
          have Hg := veil hg
          have hne : (z != (syms.length : Int)) = false := by simpa using hzn
          have h256 := hg.le
          clear hg hzn
          go_wp2_with fail
          go_loopg [7, 39] syms.length (fun gk x i wr => ∃ k : Nat, gk = syms.length - k ∧ k ≤ syms.length ∧ i = .int .i64 k ∧ Hid (∀ s ∈ syms.take k, 0 ≤ s ∧ s ≤ 255) ∧ W = wr)
          case atStart => exact ⟨0, rfl, Nat.zero_le _, rfl, veil (by simp), rfl⟩
          case round =>
            obtain ⟨k, rfl, hk2, rfl, HP, rfl⟩ := hrel
            by_cases hlt2 : k < syms.length
            · obtain ⟨g, o, x, rfl, hg, hx, h1⟩ := hsW.int hlt2
              have Hx := veil hx; clear hx
              by_cases hin : 0 ≤ x ∧ x ≤ 255
              · have Ho := veil (outside_no x 0 255 hin W)
                go_wp2_with fail
                refine Ho.out.mono ?_
                rintro e w3 ⟨rfl, rfl⟩
                go_wp2
                go_roundg (syms.length - (k + 1))
                case rel => exact ⟨k + 1, rfl, by omega, by go_num, veil (mem_snoc Hx.out HP.out hin), rfl⟩
                case measure => omega
              · have Ho := veil (outside_yes x 0 255 (by omega) W)
                have He := veil (checkErr_arg Hg.out (notSym Hx.out (by omega)))
                go_wp2_with fail
                refine Ho.out.mono ?_
                rintro e w3 ⟨rfl, rfl⟩
                go_wp2
                go_ret
                exact ⟨by rw [He.out]; rfl, hbW⟩
            · obtain rfl : k = syms.length := by omega
              have hsok : SymOk syms := by have := HP.out; rw [List.take_length] at this; exact this
              have Hs := veil hsok; clear hsok
              go_wp2_with fail
              go_loopg [8, 9, 49] syms.length (fun gk i0 x i wr => ∃ k : Nat, gk = syms.length - k ∧ k ≤ syms.length ∧ i = .int .i64 k ∧ Hid ((syms.take k).Nodup) ∧ W = wr)
              case atStart => exact ⟨0, rfl, Nat.zero_le _, rfl, veil (by simp), rfl⟩
              case round =>
                obtain ⟨j, rfl, hj2, rfl, HD, rfl⟩ := hrel
                by_cases hjt : j < syms.length
                · obtain ⟨g, o, x, rfl, hg, hx, h1⟩ := hsW.int hjt
                  have hcut := run_take_ints (some ⟨g, o, none⟩) syms.length c j (by omega) W
                  have htl : (syms.take j).length = j := by simp; omega
                  have hha := hasInt (some ⟨g, o, none⟩) c G (syms.take j) x W (hsW.takeInts j) (by rw [htl]; unfold maxLen; omega)
                  rw [htl] at hha
                  have Hx := veil hx; clear hx htl
                  by_cases hin : x ∈ syms.take j
                  · rw [decide_eq_true hin] at hha
                    have Hha := veil hha
                    have He := veil (checkErr_bad Hg.out Hs.out fun h => dup_stop Hx.out hin h.2)
                    clear hha hin
                    go_wp2_with fail
                    refine Hha.out.mono ?_
                    rintro e w3 ⟨rfl, rfl⟩
                    go_wp2
                    go_ret
                    exact ⟨by rw [He.out]; rfl, hbW⟩
                  · rw [decide_eq_false hin] at hha
                    have Hha := veil hha; have Hin := veil hin
                    clear hha hin
                    go_wp2_with fail
                    refine Hha.out.mono ?_
                    rintro e w3 ⟨rfl, rfl⟩
                    go_wp2
                    go_roundg (syms.length - (j + 1))
                    case rel => exact ⟨j + 1, rfl, by omega, by go_num, veil (dup_snoc Hx.out HD.out Hin.out), rfl⟩
                    case measure => omega
                · obtain rfl : j = syms.length := by omega
                  have hnd : syms.Nodup := by have := HD.out; rw [List.take_length] at this; exact this
                  have Hnd := veil hnd; clear hnd
                  have Hwo := veil (hwo.out Hg.out W)
                  go_wp2_with (first
                    | (refine wpList_load_mid rfl 27 (.tmp 1) rfl w.heap.size 0 rfl xs _ Hrw.out Try.underlying27 rfl (by rw [H17.out]; exact info_tab) ?_)
                    | fail)
                  refine Hwo.out.mono ?_
                  rintro e w2 ⟨v, rfl, HO, hb2⟩
                  have hbel2 := hbW.trans (hb2.mono (Nat.le_of_lt hzW))
                  cases hco : codes (nats cs) with
                  | none =>
                    have He := veil (checkErr_bad Hg.out Hs.out (fun h => by rw [hco] at h; cases h.1))
                    simp only [Option.isSome_none]
                    clear HO Hwo
                    go_wp2
                    go_ret
                    exact ⟨by rw [He.out]; rfl, hbel2⟩
                  | some l =>
                    have He := veil (checkErr_ok Hg.out Hs.out (by rw [hco]; rfl) Hnd.out)
                    simp only [Option.isSome_some]
                    clear HO Hwo
                    go_wp2
                    go_ret
                    exact ⟨by rw [He.out]; rfl, hbel2⟩
        · have hg : ¬ Good cs syms.length := fun h => hzn (by have := h.2.2; have := H4.out; omega)
          have He := veil (checkErr_form hg)
          have hne : (z != (syms.length : Int)) = true := by simpa using hzn
          clear hg hzn
          go_wp2
          go_ret
          exact ⟨by rw [He.out]; rfl, hbW⟩
end Go.Proofs.Ytmdjhbkpekepgaa

/- Two tables in one value; the reference's TablesCheck: its contract. -/
namespace Go.Proofs.Ytmdjhbkpekepgaa
open Go.RowKit
set_option linter.unusedVariables false
set_option linter.unusedSimpArgs false
set_option maxRecDepth 100000

/-- Two tables' cells. -/
def tabsCells (cs : List Int) (A : Option Addr) (n c : Nat) (cs2 : List Int) (A2 : Option Addr) (n2 c2 : Nat) : List Value := tabCells cs A n c ++ tabCells cs2 A2 n2 c2
abbrev tabsV (cs : List Int) (A : Option Addr) (n c : Nat) (cs2 : List Int) (A2 : Option Addr) (n2 c2 : Nat) : Value := .agg (tabsCells cs A n c cs2 A2 n2 c2).toArray
/-- What a check of both answers. -/
def eTs (cs syms cs2 syms2 : List Int) : Int := if checkErr cs syms = 0 then checkErr cs2 syms2 else checkErr cs syms
theorem range_right {w : World} {b o : Nat} {xs ys : List Value} (h : w.rangeAt b o (xs ++ ys)) : w.rangeAt b (o + xs.length) ys := fun j v hv => by
  have := h (xs.length + j) v (by rw [List.getElem?_append_right (by omega), Nat.add_sub_cancel_left]; exact hv)
  rw [Nat.add_assoc]; exact this
set_option maxRecDepth 100000 in
set_option maxHeartbeats 2000000 in
theorem tablesCheck_any (cs syms : List Int) (A : Option Addr) (c : Nat) (cs2 syms2 : List Int) (A2 : Option Addr) (c2 G : Nat) (w : World)
    (hcs : cs.length = 16) (hn : syms.length ≤ maxLen) (hcap : syms.length ≤ c) (hb : ∀ x ∈ cs, -9223372036854775808 ≤ x ∧ x ≤ 9223372036854775807) (hs : Seen w G A (ints .i64 syms))
    (hcs2 : cs2.length = 16) (hn2 : syms2.length ≤ maxLen) (hcap2 : syms2.length ≤ c2) (hb2 : ∀ x ∈ cs2, -9223372036854775808 ≤ x ∧ x ≤ 9223372036854775807) (hs2 : Seen w G A2 (ints .i64 syms2)) (hG : G ≤ w.heap.size) :
    Calls Try.prog 24 #[tabsV cs A syms.length c cs2 A2 syms2.length c2] w fun e w' => e = .returned (.int .i64 (eTs cs syms cs2 syms2)) ∧ Below w.heap.size w w' := by
  have h17 : (tabCells cs A syms.length c).length = 17 := tabCells_length hcs
  have h17b : (tabCells cs2 A2 syms2.length c2).length = 17 := tabCells_length hcs2
  have HC1 := veil (fun W h hG => refCheck_any cs syms A c G W hcs hn hcap hb h hG)
  have HC2 := veil (fun W h hG => refCheck_any cs2 syms2 A2 c2 G W hcs2 hn2 hcap2 hb2 h hG)
  have hb0 := below1 w (.cells (tabsCells cs A syms.length c cs2 A2 syms2.length c2).toArray 29)
  have hz0 : (w.alloc (.cells (tabsCells cs A syms.length c cs2 A2 syms2.length c2).toArray 29)).heap.size = w.heap.size + 1 := by simp
  have hr := range_new w (tabsCells cs A syms.length c cs2 A2 syms2.length c2) 29
  have hr1 := range_left hr
  have hr2 := range_right hr
  rw [h17] at hr2
  have HE : Hid (eTs cs syms cs2 syms2 = if checkErr cs syms = 0 then checkErr cs2 syms2 else checkErr cs syms) := rfl
  have H17 := veil h17
  have H17b := veil h17b
  clear hr h17 h17b hcs hcs2 hb hb2
  unfold tabsV
  unfold tabV at HC1 HC2
  generalize tabsCells cs A syms.length c cs2 A2 syms2.length c2 = zs at *
  generalize tabCells cs A syms.length c = xs at *
  generalize tabCells cs2 A2 syms2.length c2 = ys at *
  generalize eTs cs syms cs2 syms2 = E at *
  generalize checkErr cs syms = e1 at *
  generalize checkErr cs2 syms2 = e2 at *
  go_enter Try.func24, Try.ntmps24
  go_wp2_with (first
    | (refine wpList_load_mid rfl 27 (.tmp 4) rfl w.heap.size 0 rfl xs _ hr1 Try.underlying27 rfl (by rw [H17.out]; exact info_tab) ?_)
    | fail)
  refine (HC1.out _ (hs.below hb0 hG) (by rw [hz0]; omega)).mono ?_
  rintro e w1 ⟨rfl, hb1⟩
  have hr2' := range_below hr2 hb1 (by rw [hz0]; omega)
  have hbw := hb0.trans (hb1.mono (by rw [hz0]; omega))
  clear hr1 hr2 hb0 hb1 HC1
  by_cases h0 : e1 = 0
  · subst h0
    have hE := HE.out
    rw [if_pos rfl] at hE
    subst hE
    go_wp2_with (first
      | (refine wpList_load_mid rfl 27 (.tmp 10) rfl w.heap.size 17 rfl ys _ (by simpa using hr2') Try.underlying27 rfl (by rw [H17b.out]; exact info_tab) ?_)
      | fail)
    refine (HC2.out _ (hs2.below hbw hG) (by have := hbw.size; omega)).mono ?_
    rintro e w2 ⟨rfl, hb2⟩
    have hf := hbw.trans (hb2.mono hbw.size)
    go_wp2
    go_ret
    exact ⟨rfl, hf⟩
  · have hE := HE.out
    rw [if_neg h0] at hE
    subst hE
    have hne : (E != 0) = true := by simpa using h0
    clear h0
    go_wp2
    go_ret
    exact ⟨rfl, hbw⟩
end Go.Proofs.Ytmdjhbkpekepgaa

/- A block whose cells are all known, and one cell of it written. No program is named here. -/
namespace Go.Proofs.Ytmdjhbkpekepgaa
open Go.RowKit
set_option linter.unusedVariables false
set_option linter.unusedSimpArgs false
set_option maxRecDepth 100000

/-- Block b is these cells. -/
def Blk (w : World) (b : Nat) (xs : List Value) (t : TypeId) : Prop := w.heap[b]? = some (.cells xs.toArray t (0, 0))
section
variable {w w' : World} {b : Nat} {xs : List Value} {t : TypeId}
theorem Blk.new (w : World) (xs : List Value) (t : TypeId) : Blk (w.alloc (.cells xs.toArray t)) w.heap.size xs t := heap_alloc_last w _
theorem Blk.lt (h : Blk w b xs t) : b < w.heap.size := (Array.getElem?_eq_some_iff.1 h).1
theorem Blk.cell (h : Blk w b xs t) {i : Nat} {v : Value} (hv : xs[i]? = some v) : w.cell? ⟨b, i, none⟩ = some v := by
  rw [cell_of_row w b i _ _ _ h]; simpa using hv
theorem Blk.frozen (h : Blk w b xs t) (i : Nat) : w.frozen? ⟨b, i, none⟩ = false := frozen_of_row w b i _ _ h
theorem Blk.range (h : Blk w b xs t) : w.rangeAt b 0 xs := fun j v hv => by rw [Nat.zero_add]; exact h.cell hv
theorem Blk.below (h : Blk w b xs t) {C : Nat} (hb : Below C w w') (hC : b < C) : Blk w' b xs t := by
  unfold Blk at h ⊢; rw [hb.block b hC]; exact h
theorem Blk.set (h : Blk w b xs t) (i : Nat) (v : Value) : Blk (w.setCell ⟨b, i, none⟩ v) b (xs.set i v) t := by
  have := heap_setCell_same w b i xs.toArray t v h
  unfold Blk
  rw [this]
  simp
theorem Owns.setCell {B : Nat} {rs : List Row} (h : Owns B rs w) {a : Addr} (ha : a.block < B) (v : Value) : Owns B rs (w.setCell a v) := by
  refine ⟨by have := h.base; simpa [World.setCell] using this, fun r hr => ?_, h.apart⟩
  obtain ⟨h1, h2⟩ := h.each r hr
  refine ⟨h1, ?_⟩
  rcases h2 with h2 | ⟨g, cap, cur, hv, hg, hh, r⟩
  · exact .inl h2
  · exact .inr ⟨g, cap, cur, hv, hg, by rw [Below.heap_setCell _ _ _ _ (by omega)]; exact hh, r⟩
end
/-- A whole value into the block made last. -/
theorem wpList_store_new {P : Program} {ops : Array Oper} {rest : List Oper} {o : Oper} {a : Act} {Q : Exit → Act → World → Prop} (w0 : World) (hgd : o.guard = none) (t : TypeId) (x y : Operand) (ho : o.op = .store t x y) (c : Array Value) (c' : List Value)
    (hx : a.eval x = .pointer (some ⟨w0.heap.size, 0, none⟩)) (hy : a.eval y = .agg c'.toArray) (hi : (P.info? t).map (·.size) = some c'.length) (hsz : c.size = c'.length) (h1 : ∀ u ∈ c', u.oneCell' = true)
    (h : wpList P ops Q rest (a.put o.dst undef) (w0.alloc (.cells c'.toArray t))) : wpList P ops Q (o :: rest) a (w0.alloc (.cells c t)) := by
  refine wpList_plain hgd fun _ hK => ?_
  have hr := run_storeAt_new (P := P) w0 t c c'.toArray (by simpa using hi) (by simpa using hsz) (all_oneCell_toArray h1)
  unfold Oper.wp execOp
  simp only [ho, hx, hy, hr, Sem.run_bind, Sem.run_pure, Result.andThen_ok]
  exact hK _ _ h
theorem setCells_blk {b : Nat} {t : TypeId} : ∀ (vs xs pre : List Value) (w : World), vs.length = xs.length → Blk w b (pre ++ xs) t → Blk (w.setCells b pre.length vs) b (pre ++ vs) t ∧ w.grownBy (w.setCells b pre.length vs) (some b)
  | [], xs, pre, w, hl, h => by
    have : xs = [] := List.length_eq_zero_iff.1 hl.symm
    subst this
    exact ⟨h, World.grownBy.refl w _⟩
  | v :: vs, [], pre, w, hl, h => by simp at hl
  | v :: vs, x :: xs, pre, w, hl, h => by
    have h1 := h.set pre.length v
    have e1 : (pre ++ x :: xs).set pre.length v = (pre ++ [v]) ++ xs := by simp [List.set_append]
    rw [e1] at h1
    have hg : w.grownBy (w.setCell ⟨b, pre.length, none⟩ v) (some b) := ⟨rfl, rfl, rfl, by simp [World.setCell], fun i _ hi => Below.heap_setCell _ _ _ _ (fun e => hi (by rw [e]))⟩
    obtain ⟨h2, h3⟩ := setCells_blk vs xs (pre ++ [v]) _ (by simpa using hl) h1
    have e2 : (pre ++ [v]).length = pre.length + 1 := by simp
    rw [e2] at h2 h3
    refine ⟨by simpa [World.setCells] using h2, ?_⟩
    exact hg.trans h3
/-- A whole value into a block that is known. -/
theorem wpList_store_blk {P : Program} {ops : Array Oper} {rest : List Oper} {o : Oper} {a : Act} {Q : Exit → Act → World → Prop} (w : World) (hgd : o.guard = none) (t : TypeId) (x y : Operand) (ho : o.op = .store t x y) (b : Nat) (xs ys : List Value) (e : TypeId) (hB : Blk w b xs e)
    (hx : a.eval x = .pointer (some ⟨b, 0, none⟩)) (hy : a.eval y = .agg ys.toArray) (hi : (P.info? t).map (·.size) = some ys.length) (hl : ys.length = xs.length) (h1 : ∀ u ∈ ys, u.oneCell' = true)
    (h : ∀ w', Blk w' b ys e → w.grownBy w' (some b) → wpList P ops Q rest (a.put o.dst undef) w') : wpList P ops Q (o :: rest) a w := by
  obtain ⟨h2, h3⟩ := setCells_blk ys xs [] w hl hB
  refine wpList_store_mid hgd t x y ho b 0 ys.toArray hx hy (fun j hj => ⟨?_, by rw [Nat.zero_add]; exact hB.frozen j⟩) (by simpa using hi) (all_oneCell_toArray h1) (h _ h2 h3)
  obtain ⟨u, hu⟩ := some_at (xs := xs) (j := j) (by simp at hj; omega)
  rw [Nat.zero_add, hB.cell hu]; rfl
theorem Blk.kept {w w' : World} {b : Nat} {xs : List Value} {t : TypeId} {r : Option Nat} (h : Blk w b xs t) (hg : w.grownBy w' r) (hr : some b ≠ r) : Blk w' b xs t := by
  unfold Blk at h ⊢
  rw [hg.block b (Array.getElem?_eq_some_iff.1 h).1 hr]; exact h
theorem Owns.kept {w w' : World} {B b : Nat} {rs : List Row} (h : Owns B rs w) (hg : w.grownBy w' (some b)) (hb : b < B) : Owns B rs w' := by
  refine ⟨Nat.le_trans h.base hg.size, fun r hr => (h.each r hr).kept hg ?_, h.apart⟩
  cases hv : r.v.ownBlock with
  | none => exact .inl rfl
  | some g => exact .inr fun e => by injection e with e; have := ((h.each r hr).lt g hv).1; omega
end Go.Proofs.Ytmdjhbkpekepgaa

/- slices.Reverse over a row of numbers of the call's own: its contract. -/
namespace Go.Proofs.Ytmdjhbkpekepgaa
open Go.RowKit
set_option linter.unusedVariables false
set_option linter.unusedSimpArgs false
set_option maxRecDepth 100000

/-- One cell of a row of the call's own, written. -/
theorem own_set {w : World} {B g : Nat} {e : TypeId} {n c : Nat} {xs : List Value} (h : w.ownsRow B e 1 (.slice (some ⟨g, 0, none⟩) n c) n xs) {i : Nat} (hi : i < n) (v : Value) :
    (w.setCell ⟨g, i, none⟩ v).ownsRow B e 1 (.slice (some ⟨g, 0, none⟩) n c) n (xs.set i v) := by
  obtain ⟨h1, h2⟩ := h
  refine ⟨by simpa using h1, ?_⟩
  rcases h2 with ⟨h2, _⟩ | ⟨g', cap, cur, hv, hg, hh, hn, hc, hs, ht⟩
  · cases h2
  · simp only [Value.slice.injEq, Option.some.injEq, Addr.mk.injEq] at hv
    obtain ⟨⟨rfl, _, _⟩, _, rfl⟩ := hv
    refine .inr ⟨g, c, cur.setIfInBounds i v, rfl, hg, heap_setCell_same w g i cur e v hh, hn, hc, by simpa using hs, ?_⟩
    rw [Array.toList_setIfInBounds, List.take_set, ht]
theorem own_cell {w : World} {B g : Nat} {e : TypeId} {n c : Nat} {xs : List Value} (h : w.ownsRow B e 1 (.slice (some ⟨g, 0, none⟩) n c) n xs) {i : Nat} {v : Value} (hv : xs[i]? = some v) : w.cell? ⟨g, i, none⟩ = some v ∧ w.frozen? ⟨g, i, none⟩ = false ∧ B ≤ g ∧ g < w.heap.size := by
  obtain ⟨h1, h2⟩ := h
  rcases h2 with ⟨h2, _⟩ | ⟨g', cap, cur, hv', hg, hh, hn, hc, hs, ht⟩
  · cases h2
  · simp only [Value.slice.injEq, Option.some.injEq, Addr.mk.injEq] at hv'
    obtain ⟨⟨rfl, _, _⟩, _, rfl⟩ := hv'
    refine ⟨?_, frozen_of_row w g i _ _ hh, hg, (Array.getElem?_eq_some_iff.1 hh).1⟩
    rw [cell_of_row w g i _ _ _ hh]
    have hi : i < n * 1 := by rw [← h1]; exact (List.getElem?_eq_some_iff.1 hv).1
    rw [← ht, List.getElem?_take, if_pos hi] at hv
    simpa using hv
/-- The ends up to i are exchanged. -/
def Turned (l ls : List Int) (i : Nat) : Prop := ls.length = l.length ∧ ∀ k : Nat, k < l.length → ls[k]? = if k < i ∨ l.length - 1 - i < k then l[l.length - 1 - k]? else l[k]?
theorem Turned.start (l : List Int) : Turned l l 0 := ⟨rfl, fun k hk => by rw [if_neg (by omega)]⟩
theorem Turned.next {l ls : List Int} {i : Nat} {x y : Int} (h : Turned l ls i) (hi : i < l.length - 1 - i) (hx : ls[i]? = some x) (hy : ls[l.length - 1 - i]? = some y) : Turned l ((ls.set i y).set (l.length - 1 - i) x) (i + 1) := by
  obtain ⟨h1, h2⟩ := h
  refine ⟨by simpa using h1, fun k hk => ?_⟩
  rw [List.getElem?_set, List.getElem?_set]
  by_cases e1 : l.length - 1 - i = k
  · subst e1
    rw [if_pos rfl, if_pos (by simp; omega), if_pos (by omega), ← hx, h2 i (by omega), if_neg (by omega)]
    congr 1; omega
  · rw [if_neg e1]
    by_cases e2 : i = k
    · subst e2
      rw [if_pos rfl, if_pos (by omega), if_pos (by omega), ← hy, h2 _ (by omega), if_neg (by omega)]
    · rw [if_neg e2, h2 k hk]
      by_cases e3 : k < i ∨ l.length - 1 - i < k
      · rw [if_pos e3, if_pos (by omega)]
      · rw [if_neg e3, if_neg (by omega)]
theorem Turned.done {l ls : List Int} {i : Nat} (h : Turned l ls i) (hi : ¬ (i : Int) < (l.length : Int) - 1 - (i : Int)) : ls = l.reverse := by
  obtain ⟨h1, h2⟩ := h
  apply List.ext_getElem?
  intro k
  by_cases hk : k < l.length
  · rw [h2 k hk, List.getElem?_reverse hk]
    by_cases e : k < i ∨ l.length - 1 - i < k
    · rw [if_pos e]
    · rw [if_neg e]; congr 1; omega
  · rw [List.getElem?_eq_none (by omega), List.getElem?_eq_none (by simp; omega)]
set_option maxHeartbeats 2000000 in
set_option maxRecDepth 100000 in
theorem reverse_any (g c B : Nat) (l : List Int) (w : World) (HO : Owns B [intRow 3 .i64 (.slice (some ⟨g, 0, none⟩) l.length c) l] w) (hl : l.length ≤ 1048576) :
    Calls Try.prog 52 #[.slice (some ⟨g, 0, none⟩) l.length c] w fun e w' => e = .returned (.tuple #[]) ∧ Owns B [intRow 3 .i64 (.slice (some ⟨g, 0, none⟩) l.length c) l.reverse] w' ∧ Below B w w' := by
  have HO0 := veil HO; clear HO
  go_enter Try.func52, Try.ntmps52
  go_wp2
  go_loopg [2, 3] l.length (fun gk s2 s3 wr => ∃ (i : Nat) (ls : List Int), s2 = .int .i64 (i : Int) ∧ s3 = .int .i64 ((l.length : Int) - 1 - (i : Int)) ∧ gk = l.length - i ∧ i ≤ l.length ∧ Hid (Turned l ls i) ∧ Hid (Owns B [intRow 3 .i64 (.slice (some ⟨g, 0, none⟩) l.length c) ls] wr) ∧ Hid (Below B w wr))
  case atStart => exact ⟨0, l, rfl, by go_num, rfl, by omega, Turned.start l, HO0, Below.refl _ _⟩
  case round =>
    clear HO0
    obtain ⟨i, ls, rfl, rfl, rfl, hi, HT, HO, HB⟩ := hrel
    by_cases hlt : (i : Int) < (l.length : Int) - 1 - (i : Int)
    · obtain ⟨j, hj⟩ : ∃ j : Nat, j = l.length - 1 - i := ⟨_, rfl⟩
      have hjz : (l.length : Int) - 1 - (i : Int) = (j : Int) := by omega
      have hll := HT.out.1
      obtain ⟨x, hx⟩ := some_at (xs := ls) (j := i) (by omega)
      obtain ⟨y, hy⟩ := some_at (xs := ls) (j := j) (by omega)
      obtain ⟨cx, fx, hBg, hgs⟩ := own_cell (by have := HO.out.head; simp only [intRow, hll] at this; exact this) (ints_at hx)
      obtain ⟨cy, fy, _, _⟩ := own_cell (by have := HO.out.head; simp only [intRow, hll] at this; exact this) (ints_at hy)
      have HN := veil (hj ▸ HT.out.next (by omega) hx (hj ▸ hy))
      have HO2 : Hid (Owns B [intRow 3 .i64 (.slice (some ⟨g, 0, none⟩) l.length c) ((ls.set i y).set j x)] ((wr.setCell ⟨g, i, none⟩ (.int .i64 y)).setCell ⟨g, j, none⟩ (.int .i64 x))) := by
        have h1 := HO.out.head
        simp only [intRow, hll] at h1
        have h2 := own_set (own_set h1 (i := i) (by omega) (.int .i64 y)) (i := j) (by omega) (.int .i64 x)
        refine Owns.one (by have := HO.out.base; simpa [World.setCell] using this) ?_
        simp only [intRow, List.length_set, hll, ints, List.map_set] at h2 ⊢
        exact h2
      have HB2 : Hid (Below B w ((wr.setCell ⟨g, i, none⟩ (.int .i64 y)).setCell ⟨g, j, none⟩ (.int .i64 x))) := (HB.out.setCell (by simpa using hBg) _).setCell (by simpa using hBg) _
      rw [hjz] at hlt
      have hne : ¬ i = j := by omega
      have hne2 : ¬ j = i := by omega
      have hjl : (j : Int) < (l.length : Int) := by omega
      have hil : (i : Int) < (l.length : Int) := by omega
      have Hj := veil hj
      have Hjz := veil hjz
      rw [hjz]
      clear HT HO HB hx hy hj hjz hll
      go_wp2_with fail
      go_big_region
      go_wp2
      go_roundg (l.length - (i + 1))
      case rel =>
        have := Hjz.out
        exact ⟨i + 1, (ls.set i y).set j x, by go_num, by go_num, rfl, by omega, HN, veil HO2.out.drew, veil HB2.out.drew⟩
      case measure => omega
    · go_wp2
      go_end0
      exact ⟨rfl, by rw [← HT.out.done (by omega)]; exact HO.out, HB.out⟩
end Go.Proofs.Ytmdjhbkpekepgaa

/- zig.diagonal: its contract. -/
namespace Go.Proofs.Ytmdjhbkpekepgaa
open Go.RowKit
set_option linter.unusedVariables false
set_option linter.unusedSimpArgs false
set_option maxRecDepth 100000

theorem elemZ : ElemOf Try.prog 25 3 1 8 := .mk' Try.underlying25 (z := .int .i64 0) (by kernel_rfl) rfl (by omega)
/-- The first n indices of diagonal s, from its top row on. -/
def ascD (s n : Nat) : List Int := (List.range n).map fun k => 8 * ((s - 7 + k : Nat) : Int) + (s : Int) - ((s - 7 + k : Nat) : Int)
def cntD (s : Nat) : Nat := min s 7 + 1 - (s - 7)
/-- Diagonal s, as the order visits it. -/
def diagL (s : Nat) : List Int := if s % 2 = 0 then (ascD s (cntD s)).reverse else ascD s (cntD s)
theorem ascD_succ (s n : Nat) : ascD s (n + 1) = ascD s n ++ [8 * ((s - 7 + n : Nat) : Int) + (s : Int) - ((s - 7 + n : Nat) : Int)] := by
  simp [ascD, List.range_succ]
theorem ascD_length (s n : Nat) : (ascD s n).length = n := by simp [ascD]
theorem own_some {w : World} {B : Nat} {v : Value} {l : List Int} {rs : List Row} (h : Owns B (intRow 3 .i64 v l :: rs) w) (hl : 0 < l.length) : ∃ g c, v = .slice (some ⟨g, 0, none⟩) l.length c := by
  obtain ⟨h1, h2⟩ := h.head
  rcases h2 with ⟨_, h2⟩ | ⟨g, cap, cur, hv, _⟩
  · simp only [intRow] at h2; omega
  · exact ⟨g, cap, hv⟩
set_option maxHeartbeats 2000000 in
set_option maxRecDepth 100000 in
theorem diag_any (s : Nat) (w : World) (hs : s ≤ 14) :
    Calls Try.prog 49 #[.int .i64 (s : Int)] w fun e w' => ∃ v, e = .returned v ∧ Owns w.heap.size [intRow 3 .i64 v (diagL s)] w' ∧ Below w.heap.size w w' := by
  have hc : cntD s = min s 7 + 1 - (s - 7) := rfl
  have hm : min s 7 ≤ s ∧ min s 7 ≤ 7 ∧ s - 7 ≤ min s 7 ∧ (min s 7 = s ∨ min s 7 = 7) := by omega
  generalize min s 7 = m at *
  go_enter Try.func49, Try.ntmps49
  go_wp2
  all_goals (
  go_loopg [3, 4] (m + 1 - (s - 7)) (fun gk v vr wr => ∃ r : Nat, gk = m + 1 - r ∧ s - 7 ≤ r ∧ r ≤ m + 1 ∧ vr = .int .i64 (r : Int) ∧ Hid (Owns w.heap.size [intRow 3 .i64 v (ascD s (r - (s - 7)))] wr) ∧ Hid (Below w.heap.size w wr))
  case atStart => exact ⟨s - 7, by omega, by omega, by omega, by go_num, veil (by rw [Nat.sub_self]; exact (Owns.start w).fresh _ _), veil (Below.refl _ _)⟩
  case round =>
    obtain ⟨r, rfl, hr1, hr2, rfl, HO, HB⟩ := hrel
    by_cases hlt : r ≤ m
    · have h7 : (r : Int) ≤ 7 := by omega
      have hs' : (r : Int) ≤ (s : Int) := by omega
      have hll := ascD_length s (r - (s - 7))
      have HL := veil (ascD_succ s (r - (s - 7)))
      generalize ascD s (r - (s - 7)) = l at *
      go_wp2_with (first
        | (at_builtin; go_loud (refine wpList_ownI _ rfl (.tmp 15) (.tmp 22) _ rfl w.heap.size 3 .i64 8 elemZ u3 l [] rfl HO.out [_] rfl (by unfold maxLen; simp; omega) (by simp; omega) ?_); intro v4 w4 HO4 hb4 hz4)
        | fail)
      all_goals (
      go_roundg (m + 1 - (r + 1))
      case rel => 
        refine ⟨r + 1, rfl, by omega, by omega, by go_num, veil ?_, veil (HB.out.trans hb4)⟩
        rw [show r + 1 - (s - 7) = r - (s - 7) + 1 by omega, HL.out, show s - 7 + (r - (s - 7)) = r by omega]
        exact HO4
      case measure => omega)
    · obtain rfl : r = m + 1 := by omega
      rw [← hc] at HO
      have h0 : 0 < (ascD s (cntD s)).length := by rw [ascD_length]; omega
      have hl8 : (ascD s (cntD s)).length ≤ 1048576 := by rw [ascD_length]; omega
      obtain ⟨g, c, rfl⟩ := own_some HO.out h0
      have HR := veil (fun w1 h1 => reverse_any g c w.heap.size (ascD s (cntD s)) w1 h1 hl8)
      have HD : Hid (diagL s = if s % 2 = 0 then (ascD s (cntD s)).reverse else ascD s (cntD s)) := rfl
      have hrm : ¬ ((m : Int) + 1 ≤ 7 ∧ (m : Int) + 1 ≤ (s : Int)) := by omega
      generalize ascD s (cntD s) = l at *
      by_cases he : s % 2 = 0
      · have het : ((s : Int).tmod 2 == 0) = true := by rw [Int.tmod_eq_emod_of_nonneg (by omega)]; simp; omega
        have hez : (s : Int).tmod 2 = 0 := by simpa using het
        go_wp2_with fail
        all_goals (
        refine (HR.out _ HO.out).mono ?_
        rintro e w2 ⟨rfl, HO2, hb2⟩
        go_wp2
        go_ret
        exact ⟨_, rfl, by rw [HD.out, if_pos he]; have h5 := HO2; unfold intRow at h5 ⊢; rw [List.length_reverse] at h5 ⊢; exact h5, HB.out.trans hb2⟩)
      · have het : ((s : Int).tmod 2 == 0) = false := by rw [Int.tmod_eq_emod_of_nonneg (by omega)]; simp; omega
        have hez : ¬ (s : Int).tmod 2 = 0 := by simpa using het
        go_wp2
        all_goals (
        go_ret
        exact ⟨_, rfl, by rw [HD.out, if_neg he]; exact HO.out, HB.out⟩))
end Go.Proofs.Ytmdjhbkpekepgaa
