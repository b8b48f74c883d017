/- Texts shared by the claims of this seat, in one. -/
import Derived.Test.YtmdjhbkpekepgaaBd1
import Derived.Test.YtmdjhbkpekepgaaChecked
import Derived.Lib.OthersKept
import Derived.Deep.WholeRow
import Derived.Test.YtmdjhbkpekepgaaRows
import Derived.BigRegion
import Derived.Laws.MakeOwn
import Derived.Laws.ResultCell
import Derived.ChangeKeysEq
import Derived.OpenShut
/- table.field, table.bySymbol, table.byCodeword: their contracts. -/
namespace Go.Proofs.Ytmdjhbkpekepgaa
open Go.RowKit
set_option linter.unusedVariables false
set_option linter.unusedSimpArgs false
set_option maxRecDepth 100000

theorem World.size_alloc' (w : World) (o : Obj) : (w.alloc o).heap.size = w.heap.size + 1 := by simp
theorem cell_far {w w' : World} {b g o : Nat} {v : Value} (h : w.grownBy w' (some b)) (hne : g ≠ b) (hc : w.cell? ⟨g, o, none⟩ = some v) : w'.cell? ⟨g, o, none⟩ = some v := by
  have hlt := World.block_lt_of_cell? w _ hc
  have := h.block g hlt (by simpa using hne)
  simp only [World.cell?] at hc ⊢
  rw [this]; exact hc
theorem field_any (s n c : Int) (w : World) : Calls Try.prog 46 #[.agg #[.int .i64 s, .int .i64 n, .int .i64 c]] w fun e w' => e = .returned (fv (n, c)) ∧ Below w.heap.size w w' := by
  go_enter Try.func46, Try.ntmps46
  go_wp2
  exact bodyPost_ret (v := fv (n, c)) (results_cell_row rfl _ _ (w.heap.size + 1) 82 #[.int .i64 n, .int .i64 c] (0, 0) _ rfl (by rw [← World.size_alloc' w (.cells #[.int .i64 s, .int .i64 n, .int .i64 c] 80)]; exact heap_alloc_new _ _) Try.underlying82 rfl (by kernel_rfl)) rfl ⟨rfl, below2 _ _ _⟩

abbrev fi (t : Int × Nat × Nat) : Int × Int := ((t.2.1 : Int), (t.2.2 : Int))
def symGo (ws : List (Int × Nat × Nat)) : (Int → Option (Int × Int)) × Nat := ws.foldl (fun st t => (upd st.1 t.1 (fi t), if (st.1 t.1).isSome then st.2 else st.2 + 1)) (fun _ => none, 0)
def symF (ws : List (Int × Nat × Nat)) : Int → Option (Int × Int) := (symGo ws).1
def symS (ws : List (Int × Nat × Nat)) : Nat := (symGo ws).2
theorem symF_snoc (ws : List (Int × Nat × Nat)) (t : Int × Nat × Nat) : symF (ws ++ [t]) = upd (symF ws) t.1 (fi t) := by simp [symF, symGo]
theorem symS_snoc (ws : List (Int × Nat × Nat)) (t : Int × Nat × Nat) : symS (ws ++ [t]) = if (symF ws t.1).isSome then symS ws else symS ws + 1 := by unfold symS symF symGo; rw [List.foldl_append]; rfl
theorem make_map (n : Nat) (w : World) : (Instr.makeMap 72 (some (.int .i64 (n : Int)))).run Try.prog w = .ok (.map (some w.heap.size)) (w.alloc (.map #[] 0)) := by
  simp [Instr.makeMap, run_underlying Try.underlying72, asInt, newObj]
  rfl
set_option maxRecDepth 100000 in
set_option maxHeartbeats 2000000 in
theorem bySymbol_any (A : Option Addr) (c G : Nat) (ws : List (Int × Nat × Nat)) (w : World) (hs : Seen w G A (tripleCells ws)) (hG : G ≤ w.heap.size) (hl : ws.length ≤ 1048576) (hwf : ∀ t ∈ ws, WF t.1) :
    Calls Try.prog 38 #[.slice A ws.length c] w fun e w' => ∃ b, e = .returned (.map (some b)) ∧ w.heap.size ≤ b ∧ MapF w' b ws.length (symF ws) (symS ws) ∧ Below w.heap.size w w' := by
  have hmm := make_map ws.length w
  have Hwf := veil hwf; clear hwf
  go_enter Try.func38, Try.ntmps38
  go_wp2_with fail
  go_loopg [5, 11] ws.length (fun gk p i wr => ∃ k : Nat, gk = ws.length - k ∧ k ≤ ws.length ∧ i = .int .i64 k ∧ MapF wr w.heap.size k (symF (ws.take k)) (symS (ws.take k)) ∧ Below w.heap.size w wr)
  case atStart => exact ⟨0, rfl, Nat.zero_le _, rfl, MapF.made w, below1 _ _⟩
  case round =>
    obtain ⟨k, rfl, hk, rfl, HM, hbel⟩ := hrel
    by_cases hlt : k < ws.length
    · obtain ⟨g, o, s, n, cd, rfl, hg, hx, h1, h2, h3⟩ := hs.triple hlt
      have hz := hbel.size
      rw [← hbel.cell (by simp; omega)] at h1 h2 h3
      have Hx := veil hx; clear hx
      go_wp2_with fail
      have hlen : k < maxLen := by unfold maxLen; omega
      have hwx : WF s := Hwf.out _ (List.mem_of_getElem? Hx.out)
      have Hwx := veil hwx; clear hwx
      have hne : wr.heap.size ≠ w.heap.size := by have := HM.lt; omega
      have HM2 := HM.below (below1 wr (Obj.cells #[Value.int IntKind.i64 s, Value.int IntKind.i64 (n : Int), Value.int IntKind.i64 (cd : Int)] 80)) HM.lt
      have hbel2 := hbel.trans ((below1 wr (Obj.cells #[Value.int IntKind.i64 s, Value.int IntKind.i64 (n : Int), Value.int IntKind.i64 (cd : Int)] 80)).mono hz)
      have c0 : (wr.alloc (Obj.cells #[Value.int IntKind.i64 s, Value.int IntKind.i64 (n : Int), Value.int IntKind.i64 (cd : Int)] 80)).cell? ⟨wr.heap.size, 0, none⟩ = some (.int .i64 s) := by simp
      have c1 : (wr.alloc (Obj.cells #[Value.int IntKind.i64 s, Value.int IntKind.i64 (n : Int), Value.int IntKind.i64 (cd : Int)] 80)).cell? ⟨wr.heap.size, 1, none⟩ = some (.int .i64 (n : Int)) := by simp
      have c2 : (wr.alloc (Obj.cells #[Value.int IntKind.i64 s, Value.int IntKind.i64 (n : Int), Value.int IntKind.i64 (cd : Int)] 80)).cell? ⟨wr.heap.size, 2, none⟩ = some (.int .i64 (cd : Int)) := by simp
      have hsz : wr.heap.size < (wr.alloc (Obj.cells #[Value.int IntKind.i64 s, Value.int IntKind.i64 (n : Int), Value.int IntKind.i64 (cd : Int)] 80)).heap.size := by simp
      generalize wr.alloc (Obj.cells #[Value.int IntKind.i64 s, Value.int IntKind.i64 (n : Int), Value.int IntKind.i64 (cd : Int)] 80) = W at *
      clear h1 h2 h3 HM hbel hs
      generalize wr.heap.size = B at *
      go_region_held3 (fun w' => w'.cell? ⟨B, 0, none⟩ = some (.int .i64 s) ∧ w'.cell? ⟨B, 1, none⟩ = some (.int .i64 (n : Int)) ∧ w'.cell? ⟨B, 2, none⟩ = some (.int .i64 (cd : Int)))
        (first
          | go_keep
          | (go_split_ands
             refine ⟨?_, ?_, ?_⟩
             · (first | (refine (hb1.cell hsz).trans ?_; assumption) | (refine cell_far hgr2 hne ?_; assumption))
             · (first | (refine (hb1.cell hsz).trans ?_; assumption) | (refine cell_far hgr2 hne ?_; assumption))
             · (first | (refine (hb1.cell hsz).trans ?_; assumption) | (refine cell_far hgr2 hne ?_; assumption))))
        (first
          | (go_at_call 46; refine (field_any s n cd _).mono ?_; rintro e w1 ⟨rfl, hb1⟩; obtain ⟨w2, hup, HM3, hgr2⟩ := (HM2.below (below_of_drew hb1) HM2.lt).store hlen Hwx.out ((n : Int), (cd : Int)))
          | fail)
      have hbel3 : Below w.heap.size w w2 := (hbel2.trans ((below_of_drew hb1).mono hbel2.size)).grown hgr2 (Nat.le_trans hbel2.size hb1.size) (fun j hj => by injection hj with hj; omega)
      have HM4 : MapF w2 w.heap.size (k + 1) (symF (ws.take (k + 1))) (symS (ws.take (k + 1))) := by
        rw [take_snoc Hx.out, symF_snoc, symS_snoc]; exact HM3
      clear HM2 HM3 hup hbel2 hb1 hgr2
      go_wp2_with fail
      go_roundg (ws.length - (k + 1))
      case rel => exact ⟨k + 1, rfl, by omega, by go_num, HM4, hbel3⟩
      case measure => omega
    · obtain rfl : k = ws.length := by omega
      rw [List.take_length] at HM
      go_wp2
      go_ret
      exact ⟨_, rfl, Nat.le_refl _, HM, hbel⟩
end Go.Proofs.Ytmdjhbkpekepgaa

/- table.Check and table.Words: their contracts. -/
namespace Go.Proofs.Ytmdjhbkpekepgaa
open Go.RowKit
set_option linter.unusedVariables false
set_option linter.unusedSimpArgs false
set_option maxRecDepth 100000

def nats (cs : List Int) : List Nat := cs.map Int.toNat
theorem nats_length (cs : List Int) : (nats cs).length = cs.length := by simp [nats]
theorem natI_nats {cs : List Int} (h : ∀ x ∈ cs, 0 ≤ x) : natI (nats cs) = cs := by
  unfold natI nats
  rw [List.map_map]
  conv => rhs; rw [← List.map_id cs]
  refine List.map_congr_left fun x hx => ?_
  have := h x hx
  simp; omega
theorem nats_sum {cs : List Int} (h : ∀ x ∈ cs, 0 ≤ x) : ((nats cs).sum : Int) = sumW cs := by
  induction cs with
  | nil => rfl
  | cons x l ih =>
    have h1 := ih fun y hy => h y (by simp [hy])
    have h2 := h x (by simp)
    simp [nats, sumW] at h1 ⊢
    omega
def SymOk (syms : List Int) : Prop := ∀ s ∈ syms, 0 ≤ s ∧ s ≤ 255
instance (syms : List Int) : Decidable (SymOk syms) := by unfold SymOk; infer_instance
/-- What Check says. -/
def checkErr (cs syms : List Int) : Int :=
  if Good cs syms.length then if SymOk syms then if (codes (nats cs)).isSome = true ∧ syms.Nodup then 0 else 4 else 1 else 4
theorem checkErr_form {cs syms : List Int} (h : ¬ Good cs syms.length) : checkErr cs syms = 4 := by unfold checkErr; rw [if_neg h]
theorem checkErr_arg {cs syms : List Int} (h : Good cs syms.length) (h2 : ¬ SymOk syms) : checkErr cs syms = 1 := by unfold checkErr; rw [if_pos h, if_neg h2]
theorem checkErr_bad {cs syms : List Int} (h : Good cs syms.length) (h2 : SymOk syms) (h3 : ¬ ((codes (nats cs)).isSome = true ∧ syms.Nodup)) : checkErr cs syms = 4 := by unfold checkErr; rw [if_pos h, if_pos h2, if_neg h3]
theorem checkErr_ok {cs syms : List Int} (h : Good cs syms.length) (h2 : SymOk syms) (h3 : (codes (nats cs)).isSome = true) (h4 : syms.Nodup) : checkErr cs syms = 0 := by unfold checkErr; rw [if_pos h, if_pos h2, if_pos ⟨h3, h4⟩]
theorem checkErr_zero {cs syms : List Int} (h : checkErr cs syms = 0) : Good cs syms.length ∧ SymOk syms ∧ (codes (nats cs)).isSome = true ∧ syms.Nodup := by
  unfold checkErr at h
  split at h
  · rename_i h1
    split at h
    · rename_i h2
      split at h
      · rename_i h3
        exact ⟨h1, h2, h3.1, h3.2⟩
      · cases h
    · cases h
  · cases h
/-! ### how many symbols a map of them has -/
theorem snoc_ind {α : Type} {p : List α → Prop} (h0 : p []) (h1 : ∀ l a, p l → p (l ++ [a])) (l : List α) : p l := by
  have key : ∀ n (l : List α), l.length = n → p l := by
    intro n
    induction n with
    | zero => intro l h; rw [List.length_eq_zero_iff.1 h]; exact h0
    | succ n ih =>
      intro l h
      obtain ⟨a, b, rfl⟩ := list_snoc l (by intro e; rw [e] at h; cases h)
      exact h1 a b (ih a (by simp at h; omega))
  exact key _ l rfl
theorem symF_some (ws : List (Int × Nat × Nat)) (x : Int) : (symF ws x).isSome = true ↔ x ∈ ws.map (·.1) := by
  induction ws using snoc_ind with
  | h0 => simp [symF, symGo]
  | h1 ws t ih =>
    rw [symF_snoc]
    unfold upd
    by_cases e : x = t.1
    · subst e; simp
    · rw [if_neg e, ih]; simp [e]
theorem symS_nodup (ws : List (Int × Nat × Nat)) : symS ws ≤ ws.length ∧ (symS ws = ws.length ↔ (ws.map (·.1)).Nodup) := by
  induction ws using snoc_ind with
  | h0 => simp [symS, symGo]
  | h1 ws t ih =>
    rw [symS_snoc]
    by_cases h : (symF ws t.1).isSome = true
    · rw [if_pos h]
      have h2 := (symF_some ws t.1).1 h
      refine ⟨by simp; omega, ⟨fun e => by simp at e; omega, fun e => ?_⟩⟩
      rw [List.map_append, List.nodup_append] at e
      exact absurd rfl (e.2.2 _ h2 t.1 (by simp))
    · rw [if_neg h]
      have h2 : t.1 ∉ ws.map (·.1) := fun e => h ((symF_some ws t.1).2 e)
      refine ⟨by simp; omega, ?_⟩
      rw [List.map_append, List.nodup_append, List.length_append, ← ih.2]
      simp only [List.length_cons, List.length_nil, Nat.add_right_cancel_iff]
      refine ⟨fun e => ⟨by omega, by simp, fun a ha b hb => ?_⟩, fun e => by omega⟩
      simp at hb
      subst hb
      intro e2
      subst e2
      exact h2 ha
theorem mkWords_fst {syms : List Int} {l : List (Nat × Nat)} (h : l.length = syms.length) : (mkWords syms l).map (·.1) = syms := by
  unfold mkWords
  apply List.ext_getElem?
  intro i
  rw [List.getElem?_map, List.getElem?_zipWith]
  by_cases hi : i < syms.length
  · rw [List.getElem?_eq_getElem hi, List.getElem?_eq_getElem (by omega : i < l.length)]; rfl
  · rw [List.getElem?_eq_none (by omega : syms.length ≤ i)]; rfl
theorem Good.sum {cs : List Int} {n : Nat} (h : Good cs n) : (nats cs).sum = n := by
  have := nats_sum h.1; have := h.2.2; omega
theorem Good.le {cs : List Int} {n : Nat} (h : Good cs n) : n ≤ 256 := by have := h.2.1; have := h.2.2; omega
theorem notSym {syms : List Int} {k : Nat} {x : Int} (hx : syms[k]? = some x) (h : x < 0 ∨ 255 < x) : ¬ SymOk syms := fun e => by have := e x (List.mem_of_getElem? hx); omega

set_option maxRecDepth 100000 in
set_option maxHeartbeats 2000000 in
theorem check_any (cs syms : List Int) (A : Option Addr) (c G : Nat) (w : World) (hcs : cs.length = 16) (hn : syms.length ≤ maxLen) (hb : ∀ x ∈ cs, -9223372036854775808 ≤ x ∧ x ≤ 9223372036854775807) (hs : Seen w G A (ints .i64 syms)) (hG : G ≤ w.heap.size) :
    Calls Try.prog 21 #[tabV cs A syms.length c] w fun e w' => e = .returned (.int .i64 (checkErr cs syms)) ∧ Below w.heap.size w w' := by
  have h16 : (tabCells cs A syms.length c)[16]? = some (.slice A syms.length c) := tabCells_last hcs
  have hlen17 : (tabCells cs A syms.length c).length = 17 := tabCells_length hcs
  have hcm := fun w => countsMatch_any cs A syms.length c w hcs hn hb
  have has : Hid (Good cs syms.length → ∀ w1, Seen w1 G A (ints .i64 syms) → G ≤ w1.heap.size → Calls Try.prog 37 #[tabV cs A syms.length c] w1 fun e w' => ∃ v, e = .returned (.tuple #[v, .bool (codes (nats cs)).isSome]) ∧ Owns w1.heap.size [wordRow v (tabWords (nats cs) syms)] w' ∧ Below w1.heap.size w1 w') := by
    show _ → _
    intro hg w1 hs1 hG1
    have := assign_any (nats cs) syms A c G w1 (by rw [nats_length]; exact hcs) hg.sum hg.le hs1 hG1
    rw [natI_nats hg.1] at this
    exact this
  unfold maxLen at hn
  have Hcs := veil hcs; have Hb := veil hb
  clear hcs hb
  obtain ⟨xs, hxs⟩ : ∃ xs, xs = tabCells cs A syms.length c := ⟨_, rfl⟩
  have Hr := veil (range_new w xs 27)
  unfold tabV at hcm has ⊢
  rw [← hxs] at h16 hlen17 hcm has ⊢
  clear hxs
  have Hcm := veil hcm; clear hcm
  have H17 := veil hlen17; clear hlen17
  by_cases hgood : Good cs syms.length
  · have hgb : goodB cs syms.length = true := goodB_iff.2 hgood
    have h256 := hgood.le
    have Hg := veil hgood; clear hgood
    have Hgb := veil hgb; clear hgb
    go_enter Try.func21, Try.ntmps21
    go_wp2_with (first
      | (refine wpList_load_mid rfl 27 (.tmp 1) rfl w.heap.size 0 rfl xs _ Hr.out Try.underlying27 rfl (by rw [H17.out]; exact info_tab) ?_)
      | fail)
    refine (Hcm.out _).mono ?_
    rintro e w1 ⟨rfl, hb1⟩
    rw [Hgb.out]
    have c16 : w1.cell? ⟨w.heap.size, 16, none⟩ = some (.slice A syms.length c) := by
      rw [hb1.cell (by simp), World.cell?_alloc_at _ _ _ _ rfl]; simpa using h16
    have hr1 : w1.rangeAt w.heap.size 0 xs := range_below Hr.out hb1 (by simp)
    have hbel1 : Below w.heap.size w w1 := (below1 _ _).trans (hb1.mono (by simp))
    have hz1 := hb1.size
    simp at hz1
    have Hr1 := veil hr1
    clear Hr hr1 hb1 h16
    go_wp2_with fail
    go_loopg [4, 13] syms.length (fun gk x i wr => ∃ k : Nat, gk = syms.length - k ∧ k ≤ syms.length ∧ i = .int .i64 k ∧ Hid (∀ s ∈ syms.take k, 0 ≤ s ∧ s ≤ 255) ∧ wr = w1)
    case atStart => exact ⟨0, rfl, Nat.zero_le _, rfl, veil (by simp), rfl⟩
    case round =>
      obtain ⟨k, rfl, hk, rfl, HP, rfl⟩ := hrel
      by_cases hlt : k < syms.length
      · obtain ⟨g, o, x, rfl, hg, hx, h1⟩ := hs.int hlt
        rw [← hbel1.cell (by simp; omega)] at h1
        have Hx := veil hx; clear hx
        by_cases hx0 : x < 0
        · have He := veil (checkErr_arg Hg.out (notSym Hx.out (.inl hx0)))
          go_wp2
          go_ret
          exact ⟨by rw [He.out]; rfl, hbel1⟩
        · by_cases hx1 : 255 < x
          · have He := veil (checkErr_arg Hg.out (notSym Hx.out (.inr hx1)))
            go_wp2
            go_ret
            exact ⟨by rw [He.out]; rfl, hbel1⟩
          · go_wp2
            go_roundg (syms.length - (k + 1))
            case rel => exact ⟨k + 1, rfl, by omega, by go_num, veil (mem_snoc Hx.out HP.out (by omega)), rfl⟩
            case measure => omega
      · obtain rfl : k = syms.length := by omega
        have hsok : SymOk syms := by have := HP.out; rw [List.take_length] at this; exact this
        have Hs := veil hsok; clear hsok
        go_wp2_with (first
          | (refine wpList_load_mid rfl 27 (.tmp 1) rfl w.heap.size 0 rfl xs _ Hr1.out Try.underlying27 rfl (by rw [H17.out]; exact info_tab) ?_)
          | fail)
        refine (has.out Hg.out _ (hs.below hbel1 hG) (by omega)).mono ?_
        rintro e w2 ⟨v, rfl, HO, hb2⟩
        have hbel2 := hbel1.trans (hb2.mono (by omega))
        cases hco : codes (nats cs) with
        | none =>
          have He := veil (checkErr_bad Hg.out Hs.out (fun h => by rw [hco] at h; cases h.1))
          simp only [Option.isSome_none]
          go_wp2
          go_ret
          exact ⟨by rw [He.out]; rfl, hbel2⟩
        | some l =>
          simp only [Option.isSome_some]
          have hll : l.length = syms.length := (codes_length hco).trans Hg.out.sum
          have hw : tabWords (nats cs) syms = mkWords syms l := by unfold tabWords; rw [hco]; rfl
          rw [hw] at HO
          have hwl : (mkWords syms l).length = syms.length := by rw [mkWords_length _ _ (by omega), hll]
          have hfst := mkWords_fst hll
          have hnd := symS_nodup (mkWords syms l)
          rw [hfst] at hnd
          have hwf : ∀ t ∈ mkWords syms l, WF t.1 := by
            intro t ht
            have h1 : t.1 ∈ syms := by rw [← hfst]; exact List.mem_map_of_mem ht
            have := Hs.out _ h1
            exact wf_of (by omega)
          have Hwf := veil hwf
          obtain ⟨A5, c5, e5, hs5, _, _⟩ := HO.seen (List.mem_cons_self ..)
          simp only [wordRow] at e5 hs5
          rw [hwl] at e5 hnd
          subst e5
          have Hwl := veil hwl; have Hnd := veil hnd; have Hco := veil hco
          clear hwl hnd hfst hw hll hwf hco HO
          have hby := fun w0 (h : Seen w0 w2.heap.size A5 (tripleCells (mkWords syms l))) hG0 => bySymbol_any A5 c5 w2.heap.size (mkWords syms l) w0 h hG0 (by rw [Hwl.out]; omega) Hwf.out
          rw [Hwl.out] at hby
          have Hby := veil hby; clear hby
          generalize mkWords syms l = ws at *
          have hcn : (codes (nats cs)).isSome = true := by rw [Hco.out]; rfl
          have Hcn := veil hcn; clear hcn
          generalize hS : symS ws = S at *
          have Hle : S ≤ syms.length := Hnd.out.1
          go_wp2_with fail
          refine (Hby.out _ hs5 (Nat.le_refl _)).mono ?_
          rintro e w3 ⟨b, rfl, hbb, HM, hb3⟩
          have hml := fun ty => HM.len ty
          have hbel3 := hbel2.trans (hb3.mono hbel2.size)
          by_cases hnd : syms.Nodup
          · have He := veil (checkErr_ok Hg.out Hs.out Hcn.out hnd)
            have hSl := Hnd.out.2.2 hnd
            have hSl' : ¬ (S : Int) < (syms.length : Int) := by omega
            clear hSl hnd HM hs5
            go_wp2
            go_ret
            exact ⟨by rw [He.out]; rfl, hbel3⟩
          · have He := veil (checkErr_bad Hg.out Hs.out fun h => hnd h.2)
            have hSl : S ≠ syms.length := fun e => hnd (Hnd.out.2.1 e)
            have hSl' : (S : Int) < (syms.length : Int) := by omega
            clear hSl hnd HM hs5
            go_wp2
            go_ret
            exact ⟨by rw [He.out]; rfl, hbel3⟩
  · have hgb : goodB cs syms.length = false := goodB_no hgood
    have He := veil (checkErr_form hgood)
    have Hgb := veil hgb; clear hgb hgood
    go_enter Try.func21, Try.ntmps21
    go_wp2_with (first
      | (refine wpList_load_mid rfl 27 (.tmp 1) rfl w.heap.size 0 rfl xs _ Hr.out Try.underlying27 rfl (by rw [H17.out]; exact info_tab) ?_)
      | fail)
    refine (Hcm.out _).mono ?_
    rintro e w1 ⟨rfl, hb1⟩
    rw [Hgb.out]
    go_wp2
    go_ret
    exact ⟨by rw [He.out]; rfl, (below1 _ _).trans (hb1.mono (by simp))⟩
end Go.Proofs.Ytmdjhbkpekepgaa

/- table.Words: its contract. -/
namespace Go.Proofs.Ytmdjhbkpekepgaa
open Go.RowKit
set_option linter.unusedVariables false
set_option linter.unusedSimpArgs false
set_option maxRecDepth 100000

end Go.Proofs.Ytmdjhbkpekepgaa

/- Two small facts on numbers. -/
namespace Go.Proofs.Ytmdjhbkpekepgaa
open Go.RowKit
end Go.Proofs.Ytmdjhbkpekepgaa

/- The reference's binary digits: texts of zeros and ones. -/
namespace Go.Proofs.Ytmdjhbkpekepgaa
open Go.RowKit
set_option linter.unusedVariables false
set_option linter.unusedSimpArgs false
set_option maxRecDepth 100000

end Go.Proofs.Ytmdjhbkpekepgaa

/- The reference's power and outside. -/
namespace Go.Proofs.Ytmdjhbkpekepgaa
open Go.RowKit
set_option linter.unusedVariables false
set_option linter.unusedSimpArgs false
set_option maxRecDepth 100000

end Go.Proofs.Ytmdjhbkpekepgaa

/- The reference's words of a table, as binary digits. -/
namespace Go.Proofs.Ytmdjhbkpekepgaa
open Go.RowKit
set_option linter.unusedVariables false
set_option linter.unusedSimpArgs false
set_option maxRecDepth 100000

end Go.Proofs.Ytmdjhbkpekepgaa

/- The reference's Has at numbers. -/
namespace Go.Proofs.Ytmdjhbkpekepgaa
open Go.RowKit
set_option linter.unusedVariables false
set_option linter.unusedSimpArgs false
set_option maxRecDepth 100000

end Go.Proofs.Ytmdjhbkpekepgaa

/- The reference's check of a table: the same contract as Check's. -/
namespace Go.Proofs.Ytmdjhbkpekepgaa
open Go.RowKit
set_option linter.unusedVariables false
set_option linter.unusedSimpArgs false
set_option maxRecDepth 100000

end Go.Proofs.Ytmdjhbkpekepgaa

/- Two tables in one value; the reference's TablesCheck: its contract. -/
namespace Go.Proofs.Ytmdjhbkpekepgaa
open Go.RowKit
set_option linter.unusedVariables false
set_option linter.unusedSimpArgs false
set_option maxRecDepth 100000

/-- Two tables' cells. -/
def tabsCells (cs : List Int) (A : Option Addr) (n c : Nat) (cs2 : List Int) (A2 : Option Addr) (n2 c2 : Nat) : List Value := tabCells cs A n c ++ tabCells cs2 A2 n2 c2
/-- What a check of both answers. -/
def eTs (cs syms cs2 syms2 : List Int) : Int := if checkErr cs syms = 0 then checkErr cs2 syms2 else checkErr cs syms
theorem range_right {w : World} {b o : Nat} {xs ys : List Value} (h : w.rangeAt b o (xs ++ ys)) : w.rangeAt b (o + xs.length) ys := fun j v hv => by
  have := h (xs.length + j) v (by rw [List.getElem?_append_right (by omega), Nat.add_sub_cancel_left]; exact hv)
  rw [Nat.add_assoc]; exact this
end Go.Proofs.Ytmdjhbkpekepgaa

/- A block whose cells are all known, and one cell of it written. No program is named here. -/
namespace Go.Proofs.Ytmdjhbkpekepgaa
open Go.RowKit
set_option linter.unusedVariables false
set_option linter.unusedSimpArgs false
set_option maxRecDepth 100000

/-- Block b is these cells. -/
def Blk (w : World) (b : Nat) (xs : List Value) (t : TypeId) : Prop := w.heap[b]? = some (.cells xs.toArray t (0, 0))
section
variable {w w' : World} {b : Nat} {xs : List Value} {t : TypeId}
theorem Blk.new (w : World) (xs : List Value) (t : TypeId) : Blk (w.alloc (.cells xs.toArray t)) w.heap.size xs t := heap_alloc_last w _
theorem Blk.lt (h : Blk w b xs t) : b < w.heap.size := (Array.getElem?_eq_some_iff.1 h).1
theorem Blk.cell (h : Blk w b xs t) {i : Nat} {v : Value} (hv : xs[i]? = some v) : w.cell? ⟨b, i, none⟩ = some v := by
  rw [cell_of_row w b i _ _ _ h]; simpa using hv
theorem Blk.frozen (h : Blk w b xs t) (i : Nat) : w.frozen? ⟨b, i, none⟩ = false := frozen_of_row w b i _ _ h
theorem Blk.range (h : Blk w b xs t) : w.rangeAt b 0 xs := fun j v hv => by rw [Nat.zero_add]; exact h.cell hv
theorem Blk.below (h : Blk w b xs t) {C : Nat} (hb : Below C w w') (hC : b < C) : Blk w' b xs t := by
  unfold Blk at h ⊢; rw [hb.block b hC]; exact h
theorem Blk.set (h : Blk w b xs t) (i : Nat) (v : Value) : Blk (w.setCell ⟨b, i, none⟩ v) b (xs.set i v) t := by
  have := heap_setCell_same w b i xs.toArray t v h
  unfold Blk
  rw [this]
  simp
theorem Owns.setCell {B : Nat} {rs : List Row} (h : Owns B rs w) {a : Addr} (ha : a.block < B) (v : Value) : Owns B rs (w.setCell a v) := by
  refine ⟨by have := h.base; simpa [World.setCell] using this, fun r hr => ?_, h.apart⟩
  obtain ⟨h1, h2⟩ := h.each r hr
  refine ⟨h1, ?_⟩
  rcases h2 with h2 | ⟨g, cap, cur, hv, hg, hh, r⟩
  · exact .inl h2
  · exact .inr ⟨g, cap, cur, hv, hg, by rw [Below.heap_setCell _ _ _ _ (by omega)]; exact hh, r⟩
end
/-- A whole value into the block made last. -/
theorem wpList_store_new {P : Program} {ops : Array Oper} {rest : List Oper} {o : Oper} {a : Act} {Q : Exit → Act → World → Prop} (w0 : World) (hgd : o.guard = none) (t : TypeId) (x y : Operand) (ho : o.op = .store t x y) (c : Array Value) (c' : List Value)
    (hx : a.eval x = .pointer (some ⟨w0.heap.size, 0, none⟩)) (hy : a.eval y = .agg c'.toArray) (hi : (P.info? t).map (·.size) = some c'.length) (hsz : c.size = c'.length) (h1 : ∀ u ∈ c', u.oneCell' = true)
    (h : wpList P ops Q rest (a.put o.dst undef) (w0.alloc (.cells c'.toArray t))) : wpList P ops Q (o :: rest) a (w0.alloc (.cells c t)) := by
  refine wpList_plain hgd fun _ hK => ?_
  have hr := run_storeAt_new (P := P) w0 t c c'.toArray (by simpa using hi) (by simpa using hsz) (all_oneCell_toArray h1)
  unfold Oper.wp execOp
  simp only [ho, hx, hy, hr, Sem.run_bind, Sem.run_pure, Result.andThen_ok]
  exact hK _ _ h
theorem setCells_blk {b : Nat} {t : TypeId} : ∀ (vs xs pre : List Value) (w : World), vs.length = xs.length → Blk w b (pre ++ xs) t → Blk (w.setCells b pre.length vs) b (pre ++ vs) t ∧ w.grownBy (w.setCells b pre.length vs) (some b)
  | [], xs, pre, w, hl, h => by
    have : xs = [] := List.length_eq_zero_iff.1 hl.symm
    subst this
    exact ⟨h, World.grownBy.refl w _⟩
  | v :: vs, [], pre, w, hl, h => by simp at hl
  | v :: vs, x :: xs, pre, w, hl, h => by
    have h1 := h.set pre.length v
    have e1 : (pre ++ x :: xs).set pre.length v = (pre ++ [v]) ++ xs := by simp [List.set_append]
    rw [e1] at h1
    have hg : w.grownBy (w.setCell ⟨b, pre.length, none⟩ v) (some b) := ⟨rfl, rfl, rfl, by simp [World.setCell], fun i _ hi => Below.heap_setCell _ _ _ _ (fun e => hi (by rw [e]))⟩
    obtain ⟨h2, h3⟩ := setCells_blk vs xs (pre ++ [v]) _ (by simpa using hl) h1
    have e2 : (pre ++ [v]).length = pre.length + 1 := by simp
    rw [e2] at h2 h3
    refine ⟨by simpa [World.setCells] using h2, ?_⟩
    exact hg.trans h3
/-- A whole value into a block that is known. -/
theorem wpList_store_blk {P : Program} {ops : Array Oper} {rest : List Oper} {o : Oper} {a : Act} {Q : Exit → Act → World → Prop} (w : World) (hgd : o.guard = none) (t : TypeId) (x y : Operand) (ho : o.op = .store t x y) (b : Nat) (xs ys : List Value) (e : TypeId) (hB : Blk w b xs e)
    (hx : a.eval x = .pointer (some ⟨b, 0, none⟩)) (hy : a.eval y = .agg ys.toArray) (hi : (P.info? t).map (·.size) = some ys.length) (hl : ys.length = xs.length) (h1 : ∀ u ∈ ys, u.oneCell' = true)
    (h : ∀ w', Blk w' b ys e → w.grownBy w' (some b) → wpList P ops Q rest (a.put o.dst undef) w') : wpList P ops Q (o :: rest) a w := by
  obtain ⟨h2, h3⟩ := setCells_blk ys xs [] w hl hB
  refine wpList_store_mid hgd t x y ho b 0 ys.toArray hx hy (fun j hj => ⟨?_, by rw [Nat.zero_add]; exact hB.frozen j⟩) (by simpa using hi) (all_oneCell_toArray h1) (h _ h2 h3)
  obtain ⟨u, hu⟩ := some_at (xs := xs) (j := j) (by simp at hj; omega)
  rw [Nat.zero_add, hB.cell hu]; rfl
theorem Blk.kept {w w' : World} {b : Nat} {xs : List Value} {t : TypeId} {r : Option Nat} (h : Blk w b xs t) (hg : w.grownBy w' r) (hr : some b ≠ r) : Blk w' b xs t := by
  unfold Blk at h ⊢
  rw [hg.block b (Array.getElem?_eq_some_iff.1 h).1 hr]; exact h
theorem Owns.kept {w w' : World} {B b : Nat} {rs : List Row} (h : Owns B rs w) (hg : w.grownBy w' (some b)) (hb : b < B) : Owns B rs w' := by
  refine ⟨Nat.le_trans h.base hg.size, fun r hr => (h.each r hr).kept hg ?_, h.apart⟩
  cases hv : r.v.ownBlock with
  | none => exact .inl rfl
  | some g => exact .inr fun e => by injection e with e; have := ((h.each r hr).lt g hv).1; omega
end Go.Proofs.Ytmdjhbkpekepgaa

/- slices.Reverse over a row of numbers of the call's own: its contract. -/
namespace Go.Proofs.Ytmdjhbkpekepgaa
open Go.RowKit
set_option linter.unusedVariables false
set_option linter.unusedSimpArgs false
set_option maxRecDepth 100000

/-- One cell of a row of the call's own, written. -/
theorem own_set {w : World} {B g : Nat} {e : TypeId} {n c : Nat} {xs : List Value} (h : w.ownsRow B e 1 (.slice (some ⟨g, 0, none⟩) n c) n xs) {i : Nat} (hi : i < n) (v : Value) :
    (w.setCell ⟨g, i, none⟩ v).ownsRow B e 1 (.slice (some ⟨g, 0, none⟩) n c) n (xs.set i v) := by
  obtain ⟨h1, h2⟩ := h
  refine ⟨by simpa using h1, ?_⟩
  rcases h2 with ⟨h2, _⟩ | ⟨g', cap, cur, hv, hg, hh, hn, hc, hs, ht⟩
  · cases h2
  · simp only [Value.slice.injEq, Option.some.injEq, Addr.mk.injEq] at hv
    obtain ⟨⟨rfl, _, _⟩, _, rfl⟩ := hv
    refine .inr ⟨g, c, cur.setIfInBounds i v, rfl, hg, heap_setCell_same w g i cur e v hh, hn, hc, by simpa using hs, ?_⟩
    rw [Array.toList_setIfInBounds, List.take_set, ht]
theorem own_cell {w : World} {B g : Nat} {e : TypeId} {n c : Nat} {xs : List Value} (h : w.ownsRow B e 1 (.slice (some ⟨g, 0, none⟩) n c) n xs) {i : Nat} {v : Value} (hv : xs[i]? = some v) : w.cell? ⟨g, i, none⟩ = some v ∧ w.frozen? ⟨g, i, none⟩ = false ∧ B ≤ g ∧ g < w.heap.size := by
  obtain ⟨h1, h2⟩ := h
  rcases h2 with ⟨h2, _⟩ | ⟨g', cap, cur, hv', hg, hh, hn, hc, hs, ht⟩
  · cases h2
  · simp only [Value.slice.injEq, Option.some.injEq, Addr.mk.injEq] at hv'
    obtain ⟨⟨rfl, _, _⟩, _, rfl⟩ := hv'
    refine ⟨?_, frozen_of_row w g i _ _ hh, hg, (Array.getElem?_eq_some_iff.1 hh).1⟩
    rw [cell_of_row w g i _ _ _ hh]
    have hi : i < n * 1 := by rw [← h1]; exact (List.getElem?_eq_some_iff.1 hv).1
    rw [← ht, List.getElem?_take, if_pos hi] at hv
    simpa using hv
/-- The ends up to i are exchanged. -/
def Turned (l ls : List Int) (i : Nat) : Prop := ls.length = l.length ∧ ∀ k : Nat, k < l.length → ls[k]? = if k < i ∨ l.length - 1 - i < k then l[l.length - 1 - k]? else l[k]?
theorem Turned.start (l : List Int) : Turned l l 0 := ⟨rfl, fun k hk => by rw [if_neg (by omega)]⟩
theorem Turned.next {l ls : List Int} {i : Nat} {x y : Int} (h : Turned l ls i) (hi : i < l.length - 1 - i) (hx : ls[i]? = some x) (hy : ls[l.length - 1 - i]? = some y) : Turned l ((ls.set i y).set (l.length - 1 - i) x) (i + 1) := by
  obtain ⟨h1, h2⟩ := h
  refine ⟨by simpa using h1, fun k hk => ?_⟩
  rw [List.getElem?_set, List.getElem?_set]
  by_cases e1 : l.length - 1 - i = k
  · subst e1
    rw [if_pos rfl, if_pos (by simp; omega), if_pos (by omega), ← hx, h2 i (by omega), if_neg (by omega)]
    congr 1; omega
  · rw [if_neg e1]
    by_cases e2 : i = k
    · subst e2
      rw [if_pos rfl, if_pos (by omega), if_pos (by omega), ← hy, h2 _ (by omega), if_neg (by omega)]
    · rw [if_neg e2, h2 k hk]
      by_cases e3 : k < i ∨ l.length - 1 - i < k
      · rw [if_pos e3, if_pos (by omega)]
      · rw [if_neg e3, if_neg (by omega)]
theorem Turned.done {l ls : List Int} {i : Nat} (h : Turned l ls i) (hi : ¬ (i : Int) < (l.length : Int) - 1 - (i : Int)) : ls = l.reverse := by
  obtain ⟨h1, h2⟩ := h
  apply List.ext_getElem?
  intro k
  by_cases hk : k < l.length
  · rw [h2 k hk, List.getElem?_reverse hk]
    by_cases e : k < i ∨ l.length - 1 - i < k
    · rw [if_pos e]
    · rw [if_neg e]; congr 1; omega
  · rw [List.getElem?_eq_none (by omega), List.getElem?_eq_none (by simp; omega)]
set_option maxHeartbeats 2000000 in
set_option maxRecDepth 100000 in
theorem reverse_any (g c B : Nat) (l : List Int) (w : World) (HO : Owns B [intRow 3 .i64 (.slice (some ⟨g, 0, none⟩) l.length c) l] w) (hl : l.length ≤ 1048576) :
    Calls Try.prog 52 #[.slice (some ⟨g, 0, none⟩) l.length c] w fun e w' => e = .returned (.tuple #[]) ∧ Owns B [intRow 3 .i64 (.slice (some ⟨g, 0, none⟩) l.length c) l.reverse] w' ∧ Below B w w' := by
  have HO0 := veil HO; clear HO
  go_enter Try.func52, Try.ntmps52
  go_wp2
  go_loopg [2, 3] l.length (fun gk s2 s3 wr => ∃ (i : Nat) (ls : List Int), s2 = .int .i64 (i : Int) ∧ s3 = .int .i64 ((l.length : Int) - 1 - (i : Int)) ∧ gk = l.length - i ∧ i ≤ l.length ∧ Hid (Turned l ls i) ∧ Hid (Owns B [intRow 3 .i64 (.slice (some ⟨g, 0, none⟩) l.length c) ls] wr) ∧ Hid (Below B w wr))
  case atStart => exact ⟨0, l, rfl, by go_num, rfl, by omega, Turned.start l, HO0, Below.refl _ _⟩
  case round =>
    clear HO0
    obtain ⟨i, ls, rfl, rfl, rfl, hi, HT, HO, HB⟩ := hrel
    by_cases hlt : (i : Int) < (l.length : Int) - 1 - (i : Int)
    · obtain ⟨j, hj⟩ : ∃ j : Nat, j = l.length - 1 - i := ⟨_, rfl⟩
      have hjz : (l.length : Int) - 1 - (i : Int) = (j : Int) := by omega
      have hll := HT.out.1
      obtain ⟨x, hx⟩ := some_at (xs := ls) (j := i) (by omega)
      obtain ⟨y, hy⟩ := some_at (xs := ls) (j := j) (by omega)
      obtain ⟨cx, fx, hBg, hgs⟩ := own_cell (by have := HO.out.head; simp only [intRow, hll] at this; exact this) (ints_at hx)
      obtain ⟨cy, fy, _, _⟩ := own_cell (by have := HO.out.head; simp only [intRow, hll] at this; exact this) (ints_at hy)
      have HN := veil (hj ▸ HT.out.next (by omega) hx (hj ▸ hy))
      have HO2 : Hid (Owns B [intRow 3 .i64 (.slice (some ⟨g, 0, none⟩) l.length c) ((ls.set i y).set j x)] ((wr.setCell ⟨g, i, none⟩ (.int .i64 y)).setCell ⟨g, j, none⟩ (.int .i64 x))) := by
        have h1 := HO.out.head
        simp only [intRow, hll] at h1
        have h2 := own_set (own_set h1 (i := i) (by omega) (.int .i64 y)) (i := j) (by omega) (.int .i64 x)
        refine Owns.one (by have := HO.out.base; simpa [World.setCell] using this) ?_
        simp only [intRow, List.length_set, hll, ints, List.map_set] at h2 ⊢
        exact h2
      have HB2 : Hid (Below B w ((wr.setCell ⟨g, i, none⟩ (.int .i64 y)).setCell ⟨g, j, none⟩ (.int .i64 x))) := (HB.out.setCell (by simpa using hBg) _).setCell (by simpa using hBg) _
      rw [hjz] at hlt
      have hne : ¬ i = j := by omega
      have hne2 : ¬ j = i := by omega
      have hjl : (j : Int) < (l.length : Int) := by omega
      have hil : (i : Int) < (l.length : Int) := by omega
      have Hj := veil hj
      have Hjz := veil hjz
      rw [hjz]
      clear HT HO HB hx hy hj hjz hll
      go_wp2_with fail
      go_big_region
      go_wp2
      go_roundg (l.length - (i + 1))
      case rel =>
        have := Hjz.out
        exact ⟨i + 1, (ls.set i y).set j x, by go_num, by go_num, rfl, by omega, HN, veil HO2.out.drew, veil HB2.out.drew⟩
      case measure => omega
    · go_wp2
      go_end0
      exact ⟨rfl, by rw [← HT.out.done (by omega)]; exact HO.out, HB.out⟩
end Go.Proofs.Ytmdjhbkpekepgaa

/- zig.diagonal: its contract. -/
namespace Go.Proofs.Ytmdjhbkpekepgaa
open Go.RowKit
set_option linter.unusedVariables false
set_option linter.unusedSimpArgs false
set_option maxRecDepth 100000

theorem elemZ : ElemOf Try.prog 25 3 1 8 := .mk' Try.underlying25 (z := .int .i64 0) (by kernel_rfl) rfl (by omega)
/-- The first n indices of diagonal s, from its top row on. -/
def ascD (s n : Nat) : List Int := (List.range n).map fun k => 8 * ((s - 7 + k : Nat) : Int) + (s : Int) - ((s - 7 + k : Nat) : Int)
def cntD (s : Nat) : Nat := min s 7 + 1 - (s - 7)
/-- Diagonal s, as the order visits it. -/
def diagL (s : Nat) : List Int := if s % 2 = 0 then (ascD s (cntD s)).reverse else ascD s (cntD s)
theorem ascD_succ (s n : Nat) : ascD s (n + 1) = ascD s n ++ [8 * ((s - 7 + n : Nat) : Int) + (s : Int) - ((s - 7 + n : Nat) : Int)] := by
  simp [ascD, List.range_succ]
theorem ascD_length (s n : Nat) : (ascD s n).length = n := by simp [ascD]
theorem own_some {w : World} {B : Nat} {v : Value} {l : List Int} {rs : List Row} (h : Owns B (intRow 3 .i64 v l :: rs) w) (hl : 0 < l.length) : ∃ g c, v = .slice (some ⟨g, 0, none⟩) l.length c := by
  obtain ⟨h1, h2⟩ := h.head
  rcases h2 with ⟨_, h2⟩ | ⟨g, cap, cur, hv, _⟩
  · simp only [intRow] at h2; omega
  · exact ⟨g, cap, hv⟩
set_option maxHeartbeats 2000000 in
set_option maxRecDepth 100000 in
theorem diag_any (s : Nat) (w : World) (hs : s ≤ 14) :
    Calls Try.prog 49 #[.int .i64 (s : Int)] w fun e w' => ∃ v, e = .returned v ∧ Owns w.heap.size [intRow 3 .i64 v (diagL s)] w' ∧ Below w.heap.size w w' := by
  have hc : cntD s = min s 7 + 1 - (s - 7) := rfl
  have hm : min s 7 ≤ s ∧ min s 7 ≤ 7 ∧ s - 7 ≤ min s 7 ∧ (min s 7 = s ∨ min s 7 = 7) := by omega
  generalize min s 7 = m at *
  go_enter Try.func49, Try.ntmps49
  go_wp2
  all_goals (
  go_loopg [3, 4] (m + 1 - (s - 7)) (fun gk v vr wr => ∃ r : Nat, gk = m + 1 - r ∧ s - 7 ≤ r ∧ r ≤ m + 1 ∧ vr = .int .i64 (r : Int) ∧ Hid (Owns w.heap.size [intRow 3 .i64 v (ascD s (r - (s - 7)))] wr) ∧ Hid (Below w.heap.size w wr))
  case atStart => exact ⟨s - 7, by omega, by omega, by omega, by go_num, veil (by rw [Nat.sub_self]; exact (Owns.start w).fresh _ _), veil (Below.refl _ _)⟩
  case round =>
    obtain ⟨r, rfl, hr1, hr2, rfl, HO, HB⟩ := hrel
    by_cases hlt : r ≤ m
    · have h7 : (r : Int) ≤ 7 := by omega
      have hs' : (r : Int) ≤ (s : Int) := by omega
      have hll := ascD_length s (r - (s - 7))
      have HL := veil (ascD_succ s (r - (s - 7)))
      generalize ascD s (r - (s - 7)) = l at *
      go_wp2_with (first
        | (at_builtin; go_loud (refine wpList_ownI _ rfl (.tmp 15) (.tmp 22) _ rfl w.heap.size 3 .i64 8 elemZ u3 l [] rfl HO.out [_] rfl (by unfold maxLen; simp; omega) (by simp; omega) ?_); intro v4 w4 HO4 hb4 hz4)
        | fail)
      all_goals (
      go_roundg (m + 1 - (r + 1))
      case rel => 
        refine ⟨r + 1, rfl, by omega, by omega, by go_num, veil ?_, veil (HB.out.trans hb4)⟩
        rw [show r + 1 - (s - 7) = r - (s - 7) + 1 by omega, HL.out, show s - 7 + (r - (s - 7)) = r by omega]
        exact HO4
      case measure => omega)
    · obtain rfl : r = m + 1 := by omega
      rw [← hc] at HO
      have h0 : 0 < (ascD s (cntD s)).length := by rw [ascD_length]; omega
      have hl8 : (ascD s (cntD s)).length ≤ 1048576 := by rw [ascD_length]; omega
      obtain ⟨g, c, rfl⟩ := own_some HO.out h0
      have HR := veil (fun w1 h1 => reverse_any g c w.heap.size (ascD s (cntD s)) w1 h1 hl8)
      have HD : Hid (diagL s = if s % 2 = 0 then (ascD s (cntD s)).reverse else ascD s (cntD s)) := rfl
      have hrm : ¬ ((m : Int) + 1 ≤ 7 ∧ (m : Int) + 1 ≤ (s : Int)) := by omega
      generalize ascD s (cntD s) = l at *
      by_cases he : s % 2 = 0
      · have het : ((s : Int).tmod 2 == 0) = true := by rw [Int.tmod_eq_emod_of_nonneg (by omega)]; simp; omega
        have hez : (s : Int).tmod 2 = 0 := by simpa using het
        go_wp2_with fail
        all_goals (
        refine (HR.out _ HO.out).mono ?_
        rintro e w2 ⟨rfl, HO2, hb2⟩
        go_wp2
        go_ret
        exact ⟨_, rfl, by rw [HD.out, if_pos he]; have h5 := HO2; unfold intRow at h5 ⊢; rw [List.length_reverse] at h5 ⊢; exact h5, HB.out.trans hb2⟩)
      · have het : ((s : Int).tmod 2 == 0) = false := by rw [Int.tmod_eq_emod_of_nonneg (by omega)]; simp; omega
        have hez : ¬ (s : Int).tmod 2 = 0 := by simpa using het
        go_wp2
        all_goals (
        go_ret
        exact ⟨_, rfl, by rw [HD.out, if_neg he]; exact HO.out, HB.out⟩))
end Go.Proofs.Ytmdjhbkpekepgaa

/- zig.Order: its contract. -/
namespace Go.Proofs.Ytmdjhbkpekepgaa
open Go.RowKit
set_option linter.unusedVariables false
set_option linter.unusedSimpArgs false
set_option maxRecDepth 100000

/-- The first s diagonals. -/
def zzTo (s : Nat) : List Int := (List.range s).flatMap diagL
/-- The zigzag order. -/
def zz : List Int := [0, 1, 8, 16, 9, 2, 3, 10, 17, 24, 32, 25, 18, 11, 4, 5, 12, 19, 26, 33, 40, 48, 41, 34, 27, 20, 13, 6, 7, 14, 21, 28, 35, 42, 49, 56, 57, 50, 43, 36, 29, 22, 15, 23, 30, 37, 44, 51, 58, 59, 52, 45, 38, 31, 39, 46, 53, 60, 61, 54, 47, 55, 62, 63]
theorem zzTo_all : zzTo 15 = zz := by decide +kernel
theorem zz_length : zz.length = 64 := rfl
theorem zzTo_succ (s : Nat) : zzTo (s + 1) = zzTo s ++ diagL s := by simp [zzTo, List.range_succ]
theorem diagL_length (s : Nat) : (diagL s).length ≤ 8 := by
  unfold diagL
  split
  · rw [List.length_reverse, ascD_length]; unfold cntD; omega
  · rw [ascD_length]; unfold cntD; omega
theorem zzTo_length (s : Nat) : (zzTo s).length ≤ 8 * s := by
  induction s with
  | zero => simp [zzTo]
  | succ s ih => rw [zzTo_succ, List.length_append]; have := diagL_length s; omega
theorem info_intZ : (Try.prog.info? 3).map (fun i => (i.zero, i.size, i.bytes)) = some (some (.int .i64 0), 1, 8) := by kernel_rfl
theorem run_make64 (u : World) : (Instr.makeSlice 25 (.int .i64 0) (.int .i64 64)).run Try.prog u =
    .ok (.slice (some ⟨u.heap.size, 0, none⟩) 0 64) (u.alloc (.cells (madeCells #[.int .i64 0] 64) 3)) := by
  obtain ⟨i0, hi, hz0, hz1, hz2⟩ := info_parts info_intZ
  have h := run_make (P := Try.prog) u 25 3 i0 (.int .i64 0) Try.underlying25 hi hz0 .i64 .i64 0 64 (by omega) (by omega) (by rw [hz2]; omega) (by omega)
  simpa [hz1, Value.cells] using h
set_option maxHeartbeats 2000000 in
set_option maxRecDepth 100000 in
theorem order_any (w : World) :
    Calls Try.prog 40 #[] w fun e w' => ∃ g c, e = .returned (.slice (some ⟨g, 0, none⟩) 64 c) ∧ Owns w.heap.size [intRow 3 .i64 (.slice (some ⟨g, 0, none⟩) 64 c) zz] w' ∧ Below w.heap.size w w' := by
  have hmk := run_make64
  have hst : Hid (Owns w.heap.size [intRow 3 .i64 (.slice (some ⟨w.heap.size, 0, none⟩) 0 64) (zzTo 0)] (w.alloc (.cells (madeCells #[.int .i64 0] 64) 3))) :=
    (Owns.start w).made 3 1 (madeCells #[.int .i64 0] 64) 64 (by unfold maxLen; omega) (size_madeCells _ _)
  generalize madeCells #[.int .i64 0] 64 = cs at *
  go_enter Try.func40, Try.ntmps40
  go_wp2
  clear hmk
  go_loopg [1, 4] 15 (fun gk v i wr => ∃ k : Nat, gk = 15 - k ∧ k ≤ 15 ∧ i = .int .i64 (k : Int) ∧ Hid (Owns w.heap.size [intRow 3 .i64 v (zzTo k)] wr) ∧ Hid (Below w.heap.size w wr))
  case atStart => exact ⟨0, rfl, by omega, rfl, hst, veil (below1 _ _)⟩
  case round =>
    clear hst
    obtain ⟨k, rfl, hk, rfl, HO, HB⟩ := hrel
    by_cases hlt : k < 15
    · have hltz : (k : Int) < 15 := by omega
      have HD := veil (fun w1 => diag_any k w1 (by omega))
      have hzl := zzTo_length k
      have hdl := diagL_length k
      have HS := veil (zzTo_succ k)
      generalize zzTo k = l at *
      generalize diagL k = d at *
      go_wp2_with fail
      refine (HD.out _).mono ?_
      rintro e w2 ⟨v2, rfl, HO2, hb2⟩
      obtain ⟨A, c, hv2, hsn, _, _⟩ := HO2.seen (List.mem_singleton.2 rfl)
      simp only [intRow] at hv2
      subst hv2
      have HO3 := (HO.out.call hb2 HO2).swap
      simp only [intRow] at hsn
      clear HD HO2
      go_wp2_with (first
        | (at_builtin; go_loud (refine wpList_ownV w2 rfl (.tmp 7) (.tmp 9) _ rfl w.heap.size 3 1 8 elemZ u1 l.length (ints .i64 l) _ rfl HO3 w2.heap.size A d.length c (ints .i64 d) rfl hsn (by rw [ints_length, Nat.mul_one]) ints_one (by unfold maxLen; omega) (by omega) ?_); intro v4 w4 HO4 hb4)
        | fail)
      go_roundg (15 - (k + 1))
      case rel => exact ⟨k + 1, rfl, by omega, by go_num, veil (by rw [HS.out, ← intRow_append]; exact HO4.swap.tail), veil ((HB.out.trans (hb2.mono HB.out.size)).trans hb4)⟩
      case measure => omega
    · obtain rfl : k = 15 := by omega
      rw [zzTo_all] at HO
      obtain ⟨g, c, rfl⟩ := own_some HO.out (by rw [zz_length]; omega)
      rw [zz_length] at HO
      go_wp2
      go_ret
      exact ⟨g, c, rfl, HO.out, HB.out⟩
end Go.Proofs.Ytmdjhbkpekepgaa

/- The order and its inverse, in numbers. -/
namespace Go.Proofs.Ytmdjhbkpekepgaa
open Go.RowKit
set_option linter.unusedVariables false
set_option linter.unusedSimpArgs false
set_option maxRecDepth 100000

/-- The numbers of a block in the order, the first k of them. -/
def toK (cs : List Int) (k : Nat) : List Int := (List.range 64).map fun i => if i < k then cs.getD (zz.getD i 0).toNat 0 else 0
/-- The block of which the first k numbers in the order are told. -/
def fromK (cs : List Int) (k : Nat) : List Int := (List.range 64).map fun (j : Nat) => if zz.idxOf (j : Int) < k then cs.getD (zz.idxOf (j : Int)) 0 else 0
def toL (cs : List Int) : List Int := toK cs 64
def fromL (cs : List Int) : List Int := fromK cs 64
theorem toK_length (cs : List Int) (k : Nat) : (toK cs k).length = 64 := by simp [toK]
theorem fromK_length (cs : List Int) (k : Nat) : (fromK cs k).length = 64 := by simp [fromK]
theorem zero64_map (f : Nat → Int) (h : ∀ i, f i = 0) : (List.range 64).map f = List.replicate 64 0 := by
  apply List.ext_getElem?
  intro i
  by_cases hi : i < 64
  · rw [List.getElem?_map, List.getElem?_range hi, List.getElem?_replicate, if_pos hi]; simp [h]
  · rw [List.getElem?_eq_none (by simp; omega), List.getElem?_eq_none (by simp; omega)]
theorem toK_zero (cs : List Int) : toK cs 0 = List.replicate 64 0 := zero64_map _ fun i => if_neg (by omega)
theorem fromK_zero (cs : List Int) : fromK cs 0 = List.replicate 64 0 := zero64_map _ fun i => if_neg (by omega)
theorem zz_at : ∀ k : Fin 64, ∃ n : Fin 64, zz[k.1]? = some ((n.1 : Nat) : Int) ∧ zz.idxOf ((n.1 : Nat) : Int) = k.1 := by decide +kernel
theorem zz_back : ∀ j : Fin 64, zz.idxOf ((j.1 : Nat) : Int) < 64 ∧ zz[zz.idxOf ((j.1 : Nat) : Int)]? = some ((j.1 : Nat) : Int) := by decide +kernel
theorem toK_next {cs : List Int} {k n : Nat} {x : Int} (hk : k < 64) (hn : zz[k]? = some (n : Int)) (hx : cs[n]? = some x) : toK cs (k + 1) = (toK cs k).set k x := by
  apply List.ext_getElem?
  intro i
  rw [List.getElem?_set]
  by_cases hi : i < 64
  · simp only [toK, List.getElem?_map, List.getElem?_range hi, List.length_map, List.length_range]
    by_cases e : k = i
    · subst e
      rw [if_pos rfl, if_pos hi]
      simp [List.getD_eq_getElem?_getD, hn, hx]
    · rw [if_neg e]
      simp only [Option.map_some, show i < k + 1 ↔ i < k by omega]
  · rw [List.getElem?_eq_none (by rw [toK_length]; omega), if_neg (by omega), List.getElem?_eq_none (by rw [toK_length]; omega)]
theorem fromK_next {cs : List Int} {k n : Nat} {x : Int} (hk : k < 64) (hn : zz[k]? = some (n : Int)) (hx : cs[k]? = some x) : fromK cs (k + 1) = (fromK cs k).set n x := by
  obtain ⟨⟨n', h64⟩, hn', hidx⟩ := zz_at ⟨k, hk⟩
  simp only at hn' hidx
  rw [hn] at hn'
  obtain rfl : n = n' := by injection hn' with hn'; omega
  apply List.ext_getElem?
  intro j
  rw [List.getElem?_set]
  by_cases hj : j < 64
  · simp only [fromK, List.getElem?_map, List.getElem?_range hj, List.length_map, List.length_range]
    by_cases e : n = j
    · subst e
      rw [if_pos rfl, if_pos hj]
      simp [List.getD_eq_getElem?_getD, hidx, hx]
    · rw [if_neg e]
      have hb := zz_back ⟨j, hj⟩
      simp only at hb
      have hne : zz.idxOf (j : Int) ≠ k := by
        intro h
        rw [h, hn] at hb
        have := hb.2
        injection this with this
        omega
      simp only [Option.map_some, show zz.idxOf (j : Int) < k + 1 ↔ zz.idxOf (j : Int) < k by omega]
  · rw [List.getElem?_eq_none (by rw [fromK_length]; omega), if_neg (by omega), List.getElem?_eq_none (by rw [fromK_length]; omega)]
theorem toL_at {cs : List Int} {k n : Nat} (hk : k < 64) (hn : zz[k]? = some (n : Int)) : (toL cs)[k]? = some (cs.getD n 0) := by
  simp only [toL, toK, List.getElem?_map, List.getElem?_range hk, Option.map_some, if_pos hk]
  simp [List.getD_eq_getElem?_getD, hn]
theorem fromL_at {cs : List Int} {j : Nat} (hj : j < 64) : (fromL cs)[j]? = some (cs.getD (zz.idxOf (j : Int)) 0) := by
  have hb := zz_back ⟨j, hj⟩
  simp only [fromL, fromK, List.getElem?_map, List.getElem?_range hj, Option.map_some, if_pos hb.1]
theorem getD_some {cs : List Int} {k : Nat} (hk : k < cs.length) : cs[k]? = some (cs.getD k 0) := by
  rw [List.getD_eq_getElem?_getD, List.getElem?_eq_getElem hk]; rfl
theorem from_to {cs : List Int} (hc : cs.length = 64) : fromL (toL cs) = cs := by
  apply List.ext_getElem?
  intro j
  by_cases hj : j < 64
  · obtain ⟨h1, h2⟩ := zz_back ⟨j, hj⟩
    simp only at h1 h2
    rw [fromL_at hj, List.getD_eq_getElem?_getD, toL_at h1 h2, getD_some (by omega)]; rfl
  · rw [List.getElem?_eq_none (by rw [fromL, fromK_length]; omega), List.getElem?_eq_none (by omega)]
theorem to_from {cs : List Int} (hc : cs.length = 64) : toL (fromL cs) = cs := by
  apply List.ext_getElem?
  intro k
  by_cases hk : k < 64
  · obtain ⟨⟨n, hn⟩, h1, h2⟩ := zz_at ⟨k, hk⟩
    simp only at h1 h2
    rw [toL_at hk h1, List.getD_eq_getElem?_getD, fromL_at hn, h2, getD_some (by omega)]; rfl
  · rw [List.getElem?_eq_none (by rw [toL, toK_length]; omega), List.getElem?_eq_none (by omega)]
end Go.Proofs.Ytmdjhbkpekepgaa

/- A block's value (64 numbers), and whether two are equal. -/
namespace Go.Proofs.Ytmdjhbkpekepgaa
open Go.RowKit
set_option linter.unusedVariables false
set_option linter.unusedSimpArgs false
set_option maxRecDepth 100000

/-- A block's value. -/
abbrev blkV (cs : List Int) : Value := .agg (ints .i64 cs).toArray
theorem info_blk : (Try.prog.info? 23).map (·.size) = some 64 := by kernel_rfl
theorem info_blkn {xs : List Value} (h : xs.length = 64) : (Try.prog.info? 23).map (·.size) = some xs.length := by rw [h]; exact info_blk
theorem run_eqItems_ints {P : Program} (w : World) (d : Nat) {e : TypeId} {k : IntKind} (he : P.underlying e = some (.int k)) (hp : P.plainKey e = true) (cs ds : List Int) : ∀ (is : List Nat), (∀ i ∈ is, i < cs.length ∧ i < ds.length) →
    (Op.eqItems (d + 1) e 1 (ints k cs).toArray (ints k ds).toArray is).run P w = .ok (decide (∀ i ∈ is, cs[i]? = ds[i]?)) w
  | [], _ => by simp [Op.eqItems]
  | i :: is, h => by
    obtain ⟨h1, h2⟩ := h i (by simp)
    obtain ⟨x, hx⟩ := some_at h1
    obtain ⟨y, hy⟩ := some_at h2
    have p1 : (part e (ints k cs).toArray (i * 1)).run P w = .ok (.int k x) w := run_part_plain w hp (by simpa using ints_at (k := k) hx)
    have p2 : (part e (ints k ds).toArray (i * 1)).run P w = .ok (.int k y) w := run_part_plain w hp (by simpa using ints_at (k := k) hy)
    have ih := run_eqItems_ints w d he hp cs ds is fun j hj => h j (by simp [hj])
    simp only [Op.eqItems, Sem.run_bind, p1, p2, Result.andThen_ok, run_equalIn_int w d e k k x y he]
    by_cases hxy : x = y
    · subst hxy
      simp only [beq_self_eq_true, Bool.not_true, Bool.false_eq_true, if_false, ih]
      congr 1
      simp only [decide_eq_decide]
      constructor
      · intro h j hj
        rcases List.mem_cons.1 hj with rfl | hj
        · rw [hx, hy]
        · exact h j hj
      · intro h j hj; exact h j (by simp [hj])
    · have hb : (x == y) = false := by simpa using hxy
      simp only [hb, Bool.not_false, if_true, Sem.run_pure]
      congr 1
      symm
      simp only [decide_eq_false_iff_not]
      intro h3
      have := h3 i (by simp)
      rw [hx, hy] at this
      exact hxy (by injection this)
theorem ext64 {cs ds : List Int} (hc : cs.length = 64) (hd : ds.length = 64) : (∀ i ∈ List.range 64, cs[i]? = ds[i]?) ↔ cs = ds := by
  constructor
  · intro h
    apply List.ext_getElem?
    intro i
    by_cases hi : i < 64
    · exact h i (List.mem_range.2 hi)
    · rw [List.getElem?_eq_none (by omega), List.getElem?_eq_none (by omega)]
  · rintro rfl i _; rfl
/-- Two blocks compared. -/
theorem blk_eql (cs ds : List Int) (hc : cs.length = 64) (hd : ds.length = 64) (u : World) : (binOp .eql 23 (blkV cs) (blkV ds)).run Try.prog u = .ok (.bool (decide (cs = ds))) u := by
  cases hi : Try.prog.info? 3 with
  | none => have : (Try.prog.info? 3).isSome = true := by kernel_rfl
            rw [hi] at this; cases this
  | some inf =>
    have hc1 : Try.prog.cellsOf 3 = 1 := by kernel_rfl
    rw [run_eql_struct u 23, show (10000 : Nat) = 9998 + 1 + 1 from rfl, run_equalIn_array u (9998 + 1) _ _ Try.underlying23 hi, hc1,
      run_eqItems_ints u 9998 Try.underlying3 (by kernel_rfl) cs ds (List.range 64) (fun i hi => by have := List.mem_range.1 hi; omega)]
    simp only [Result.andThen_ok]
    exact congrArg (fun b => Result.ok (Value.bool b) u) (decide_eq_decide.2 (ext64 hc hd))
end Go.Proofs.Ytmdjhbkpekepgaa

/- The zero block, three blocks just laid, a block and a code handed back: what the walks over blocks share. -/
namespace Go.Proofs.Ytmdjhbkpekepgaa
open Go.RowKit
set_option linter.unusedVariables false
set_option linter.unusedSimpArgs false
set_option maxRecDepth 100000

def zeroB : List Value := ints .i64 (List.replicate 64 0)
theorem zeroB_length : zeroB.length = 64 := by simp [zeroB, ints_length]
def zero64 : List Int := List.replicate 64 0
theorem results_row_tmp {P : Program} {fn : Func} {p u : Tmp} {ty : TypeId} (h : fn.results = #[.cell p ty, .tmp u]) (tmps : Array Value) (w : World) (g : Nat) (t : TypeId) (cs : Array Value) (fr : Nat × Nat) (d : TypeDesc) (x : Value)
    (hp : tmps.getD p undef = .pointer (some ⟨g, 0, none⟩)) (hx : tmps.getD u undef = x) (hg : w.heap[g]? = some (.cells cs t fr))
    (hu : P.underlying ty = some d) (hd : (match d with | .struct _ | .array _ _ => true | _ => false) = true) (hi : (P.info? ty).map (·.size) = some cs.size) :
    (results fn tmps).run P w = .ok (.tuple #[.agg cs, x]) w := by
  rw [results_cell_tmp h, hp, hx]
  simp [asAddr, run_loadVar_row w g t ty cs fr d hg hu hd hi, Result.andThen]
/-- The three blocks that these functions lay. -/
def box3 (cs : List Int) (w : World) : World := ((w.alloc (.cells (ints .i64 cs).toArray 23)).alloc (.cells zeroB.toArray 23)).alloc (.cells zeroB.toArray 23)
theorem box3_is (cs : List Int) (w : World) : Below w.heap.size w (box3 cs w) ∧ Blk (box3 cs w) w.heap.size (ints .i64 cs) 23 ∧ Blk (box3 cs w) (w.heap.size + 1) zeroB 23 ∧ Blk (box3 cs w) (w.heap.size + 1 + 1) zeroB 23 ∧ (box3 cs w).heap.size = w.heap.size + 3 := by
  have e1 := World.size_alloc w (.cells (ints .i64 cs).toArray 23)
  have e2 := World.size_alloc (w.alloc (.cells (ints .i64 cs).toArray 23)) (.cells zeroB.toArray 23)
  have h0 := Blk.new w (ints .i64 cs) 23
  have h1 := Blk.new (w.alloc (.cells (ints .i64 cs).toArray 23)) zeroB 23
  have h2 := Blk.new ((w.alloc (.cells (ints .i64 cs).toArray 23)).alloc (.cells zeroB.toArray 23)) zeroB 23
  have b1 := below1 ((w.alloc (.cells (ints .i64 cs).toArray 23)).alloc (.cells zeroB.toArray 23)) (.cells zeroB.toArray 23)
  have b2 := below2 (w.alloc (.cells (ints .i64 cs).toArray 23)) (.cells zeroB.toArray 23) (.cells zeroB.toArray 23)
  refine ⟨below3 _ _ _ _, h0.below b2 (by omega), ?_, ?_, by simp [box3]⟩
  · have := h1.below b1 (by omega)
    rw [e1] at this; exact this
  · rw [e2, e1] at h2; exact h2
end Go.Proofs.Ytmdjhbkpekepgaa

/- Rounding and clamping in numbers. -/
namespace Go.Proofs.Ytmdjhbkpekepgaa
open Go.RowKit
set_option linter.unusedVariables false
set_option linter.unusedSimpArgs false
set_option maxRecDepth 100000

end Go.Proofs.Ytmdjhbkpekepgaa

/- Rounding and clamping in numbers; blocks made number by number. -/
namespace Go.Proofs.Ytmdjhbkpekepgaa
open Go.RowKit
set_option linter.unusedVariables false
set_option linter.unusedSimpArgs false
set_option maxRecDepth 100000

/-- All numbers within bounds. -/
def inB (lo hi : Int) (cs : List Int) : Bool := cs.all fun x => decide (lo ≤ x) && decide (x ≤ hi)
theorem inB_mem {lo hi : Int} {cs : List Int} : inB lo hi cs = true ↔ ∀ x ∈ cs, lo ≤ x ∧ x ≤ hi := by simp [inB]
theorem inB_at {lo hi : Int} {cs : List Int} (h : inB lo hi cs = true) {i : Nat} {x : Int} (hx : cs[i]? = some x) : lo ≤ x ∧ x ≤ hi := inB_mem.1 h x (List.mem_of_getElem? hx)
def badB (lo hi : Int) (cs : List Int) : Int := if inB lo hi cs = true then 0 else 1
/-- The block made out of cs number by number, the first k of them. -/
def mapK (f : Nat → Int → Int) (cs : List Int) (k : Nat) : List Int := (List.range 64).map fun i => if i < k then f i (cs.getD i 0) else 0
theorem mapK_length (f : Nat → Int → Int) (cs : List Int) (k : Nat) : (mapK f cs k).length = 64 := by simp [mapK]
theorem mapK_zero (f : Nat → Int → Int) (cs : List Int) : mapK f cs 0 = List.replicate 64 0 := by
  apply List.ext_getElem?
  intro i
  by_cases hi : i < 64
  · rw [mapK, List.getElem?_map, List.getElem?_range hi, List.getElem?_replicate, if_pos hi]; simp
  · rw [List.getElem?_eq_none (by rw [mapK_length]; omega), List.getElem?_eq_none (by simp; omega)]
theorem mapK_next {f : Nat → Int → Int} {cs : List Int} {k : Nat} {x : Int} (hk : k < 64) (hx : cs[k]? = some x) : mapK f cs (k + 1) = (mapK f cs k).set k (f k x) := by
  apply List.ext_getElem?
  intro i
  rw [List.getElem?_set]
  by_cases hi : i < 64
  · simp only [mapK, List.getElem?_map, List.getElem?_range hi, List.length_map, List.length_range]
    by_cases e : k = i
    · subst e
      rw [if_pos rfl, if_pos hi]
      simp [List.getD_eq_getElem?_getD, hx]
    · rw [if_neg e]
      simp only [Option.map_some, show i < k + 1 ↔ i < k by omega]
  · rw [List.getElem?_eq_none (by rw [mapK_length]; omega), if_neg (by omega), List.getElem?_eq_none (by rw [mapK_length]; omega)]
end Go.Proofs.Ytmdjhbkpekepgaa
