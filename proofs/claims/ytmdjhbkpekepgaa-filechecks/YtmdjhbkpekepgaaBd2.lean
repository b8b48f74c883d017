/- Texts shared by the claims of this seat, in one. -/
import Derived.Test.YtmdjhbkpekepgaaBd1
import Derived.Test.YtmdjhbkpekepgaaChecked
import Derived.Lib.OthersKept
import Derived.Deep.WholeRow
import Derived.Test.YtmdjhbkpekepgaaRows
import Derived.BigRegion
import Derived.Laws.MakeOwn
import Derived.Laws.ResultCell
import Derived.ChangeKeysEq
import Derived.OpenShut
import Derived.BigQuiet
import Derived.Deep.LoopGhost
/- table.Check and table.Words: their contracts. -/
namespace Go.Proofs.Ytmdjhbkpekepgaa
open Go.RowKit
set_option linter.unusedVariables false
set_option linter.unusedSimpArgs false
set_option maxRecDepth 100000

def nats (cs : List Int) : List Nat := cs.map Int.toNat
theorem nats_length (cs : List Int) : (nats cs).length = cs.length := by simp [nats]
theorem natI_nats {cs : List Int} (h : ∀ x ∈ cs, 0 ≤ x) : natI (nats cs) = cs := by
  unfold natI nats
  rw [List.map_map]
  conv => rhs; rw [← List.map_id cs]
  refine List.map_congr_left fun x hx => ?_
  have := h x hx
  simp; omega
theorem nats_sum {cs : List Int} (h : ∀ x ∈ cs, 0 ≤ x) : ((nats cs).sum : Int) = sumW cs := by
  induction cs with
  | nil => rfl
  | cons x l ih =>
    have h1 := ih fun y hy => h y (by simp [hy])
    have h2 := h x (by simp)
    simp [nats, sumW] at h1 ⊢
    omega
def SymOk (syms : List Int) : Prop := ∀ s ∈ syms, 0 ≤ s ∧ s ≤ 255
instance (syms : List Int) : Decidable (SymOk syms) := by unfold SymOk; infer_instance
/-- What Check says. -/
def checkErr (cs syms : List Int) : Int :=
  if Good cs syms.length then if SymOk syms then if (codes (nats cs)).isSome = true ∧ syms.Nodup then 0 else 4 else 1 else 4
theorem checkErr_form {cs syms : List Int} (h : ¬ Good cs syms.length) : checkErr cs syms = 4 := by unfold checkErr; rw [if_neg h]
theorem checkErr_arg {cs syms : List Int} (h : Good cs syms.length) (h2 : ¬ SymOk syms) : checkErr cs syms = 1 := by unfold checkErr; rw [if_pos h, if_neg h2]
theorem checkErr_bad {cs syms : List Int} (h : Good cs syms.length) (h2 : SymOk syms) (h3 : ¬ ((codes (nats cs)).isSome = true ∧ syms.Nodup)) : checkErr cs syms = 4 := by unfold checkErr; rw [if_pos h, if_pos h2, if_neg h3]
theorem checkErr_ok {cs syms : List Int} (h : Good cs syms.length) (h2 : SymOk syms) (h3 : (codes (nats cs)).isSome = true) (h4 : syms.Nodup) : checkErr cs syms = 0 := by unfold checkErr; rw [if_pos h, if_pos h2, if_pos ⟨h3, h4⟩]
/-! ### how many symbols a map of them has -/
theorem snoc_ind {α : Type} {p : List α → Prop} (h0 : p []) (h1 : ∀ l a, p l → p (l ++ [a])) (l : List α) : p l := by
  have key : ∀ n (l : List α), l.length = n → p l := by
    intro n
    induction n with
    | zero => intro l h; rw [List.length_eq_zero_iff.1 h]; exact h0
    | succ n ih =>
      intro l h
      obtain ⟨a, b, rfl⟩ := list_snoc l (by intro e; rw [e] at h; cases h)
      exact h1 a b (ih a (by simp at h; omega))
  exact key _ l rfl
theorem symF_some (ws : List (Int × Nat × Nat)) (x : Int) : (symF ws x).isSome = true ↔ x ∈ ws.map (·.1) := by
  induction ws using snoc_ind with
  | h0 => simp [symF, symGo]
  | h1 ws t ih =>
    rw [symF_snoc]
    unfold upd
    by_cases e : x = t.1
    · subst e; simp
    · rw [if_neg e, ih]; simp [e]
theorem symS_nodup (ws : List (Int × Nat × Nat)) : symS ws ≤ ws.length ∧ (symS ws = ws.length ↔ (ws.map (·.1)).Nodup) := by
  induction ws using snoc_ind with
  | h0 => simp [symS, symGo]
  | h1 ws t ih =>
    rw [symS_snoc]
    by_cases h : (symF ws t.1).isSome = true
    · rw [if_pos h]
      have h2 := (symF_some ws t.1).1 h
      refine ⟨by simp; omega, ⟨fun e => by simp at e; omega, fun e => ?_⟩⟩
      rw [List.map_append, List.nodup_append] at e
      exact absurd rfl (e.2.2 _ h2 t.1 (by simp))
    · rw [if_neg h]
      have h2 : t.1 ∉ ws.map (·.1) := fun e => h ((symF_some ws t.1).2 e)
      refine ⟨by simp; omega, ?_⟩
      rw [List.map_append, List.nodup_append, List.length_append, ← ih.2]
      simp only [List.length_cons, List.length_nil, Nat.add_right_cancel_iff]
      refine ⟨fun e => ⟨by omega, by simp, fun a ha b hb => ?_⟩, fun e => by omega⟩
      simp at hb
      subst hb
      intro e2
      subst e2
      exact h2 ha
theorem mkWords_fst {syms : List Int} {l : List (Nat × Nat)} (h : l.length = syms.length) : (mkWords syms l).map (·.1) = syms := by
  unfold mkWords
  apply List.ext_getElem?
  intro i
  rw [List.getElem?_map, List.getElem?_zipWith]
  by_cases hi : i < syms.length
  · rw [List.getElem?_eq_getElem hi, List.getElem?_eq_getElem (by omega : i < l.length)]; rfl
  · rw [List.getElem?_eq_none (by omega : syms.length ≤ i)]; rfl
theorem Good.sum {cs : List Int} {n : Nat} (h : Good cs n) : (nats cs).sum = n := by
  have := nats_sum h.1; have := h.2.2; omega
theorem Good.le {cs : List Int} {n : Nat} (h : Good cs n) : n ≤ 256 := by have := h.2.1; have := h.2.2; omega
theorem notSym {syms : List Int} {k : Nat} {x : Int} (hx : syms[k]? = some x) (h : x < 0 ∨ 255 < x) : ¬ SymOk syms := fun e => by have := e x (List.mem_of_getElem? hx); omega

set_option maxRecDepth 100000 in
set_option maxHeartbeats 2000000 in
theorem check_any (cs syms : List Int) (A : Option Addr) (c G : Nat) (w : World) (hcs : cs.length = 16) (hn : syms.length ≤ maxLen) (hb : ∀ x ∈ cs, -9223372036854775808 ≤ x ∧ x ≤ 9223372036854775807) (hs : Seen w G A (ints .i64 syms)) (hG : G ≤ w.heap.size) :
    Calls Try.prog 21 #[tabV cs A syms.length c] w fun e w' => e = .returned (.int .i64 (checkErr cs syms)) ∧ Below w.heap.size w w' := by
  have h16 : (tabCells cs A syms.length c)[16]? = some (.slice A syms.length c) := tabCells_last hcs
  have hlen17 : (tabCells cs A syms.length c).length = 17 := tabCells_length hcs
  have hcm := fun w => countsMatch_any cs A syms.length c w hcs hn hb
  have has : Hid (Good cs syms.length → ∀ w1, Seen w1 G A (ints .i64 syms) → G ≤ w1.heap.size → Calls Try.prog 37 #[tabV cs A syms.length c] w1 fun e w' => ∃ v, e = .returned (.tuple #[v, .bool (codes (nats cs)).isSome]) ∧ Owns w1.heap.size [wordRow v (tabWords (nats cs) syms)] w' ∧ Below w1.heap.size w1 w') := by
    show _ → _
    intro hg w1 hs1 hG1
    have := assign_any (nats cs) syms A c G w1 (by rw [nats_length]; exact hcs) hg.sum hg.le hs1 hG1
    rw [natI_nats hg.1] at this
    exact this
  unfold maxLen at hn
  have Hcs := veil hcs; have Hb := veil hb
  clear hcs hb
  obtain ⟨xs, hxs⟩ : ∃ xs, xs = tabCells cs A syms.length c := ⟨_, rfl⟩
  have Hr := veil (range_new w xs 27)
  unfold tabV at hcm has ⊢
  rw [← hxs] at h16 hlen17 hcm has ⊢
  clear hxs
  have Hcm := veil hcm; clear hcm
  have H17 := veil hlen17; clear hlen17
  by_cases hgood : Good cs syms.length
  · have hgb : goodB cs syms.length = true := goodB_iff.2 hgood
    have h256 := hgood.le
    have Hg := veil hgood; clear hgood
    have Hgb := veil hgb; clear hgb
    go_enter Try.func21, Try.ntmps21
    go_wp2_with (first
      | (refine wpList_load_mid rfl 27 (.tmp 1) rfl w.heap.size 0 rfl xs _ Hr.out Try.underlying27 rfl (by rw [H17.out]; exact info_tab) ?_)
      | fail)
    refine (Hcm.out _).mono ?_
    rintro e w1 ⟨rfl, hb1⟩
    rw [Hgb.out]
    have c16 : w1.cell? ⟨w.heap.size, 16, none⟩ = some (.slice A syms.length c) := by
      rw [hb1.cell (by simp), World.cell?_alloc_at _ _ _ _ rfl]; simpa using h16
    have hr1 : w1.rangeAt w.heap.size 0 xs := range_below Hr.out hb1 (by simp)
    have hbel1 : Below w.heap.size w w1 := (below1 _ _).trans (hb1.mono (by simp))
    have hz1 := hb1.size
    simp at hz1
    have Hr1 := veil hr1
    clear Hr hr1 hb1 h16
    go_wp2_with fail
    go_loopg [4, 13] syms.length (fun gk x i wr => ∃ k : Nat, gk = syms.length - k ∧ k ≤ syms.length ∧ i = .int .i64 k ∧ Hid (∀ s ∈ syms.take k, 0 ≤ s ∧ s ≤ 255) ∧ wr = w1)
    case atStart => exact ⟨0, rfl, Nat.zero_le _, rfl, veil (by simp), rfl⟩
    case round =>
      obtain ⟨k, rfl, hk, rfl, HP, rfl⟩ := hrel
      by_cases hlt : k < syms.length
      · obtain ⟨g, o, x, rfl, hg, hx, h1⟩ := hs.int hlt
        rw [← hbel1.cell (by simp; omega)] at h1
        have Hx := veil hx; clear hx
        by_cases hx0 : x < 0
        · have He := veil (checkErr_arg Hg.out (notSym Hx.out (.inl hx0)))
          go_wp2
          go_ret
          exact ⟨by rw [He.out]; rfl, hbel1⟩
        · by_cases hx1 : 255 < x
          · have He := veil (checkErr_arg Hg.out (notSym Hx.out (.inr hx1)))
            go_wp2
            go_ret
            exact ⟨by rw [He.out]; rfl, hbel1⟩
          · go_wp2
            go_roundg (syms.length - (k + 1))
            case rel => exact ⟨k + 1, rfl, by omega, by go_num, veil (mem_snoc Hx.out HP.out (by omega)), rfl⟩
            case measure => omega
      · obtain rfl : k = syms.length := by omega
        have hsok : SymOk syms := by have := HP.out; rw [List.take_length] at this; exact this
        have Hs := veil hsok; clear hsok
        go_wp2_with (first
          | (refine wpList_load_mid rfl 27 (.tmp 1) rfl w.heap.size 0 rfl xs _ Hr1.out Try.underlying27 rfl (by rw [H17.out]; exact info_tab) ?_)
          | fail)
        refine (has.out Hg.out _ (hs.below hbel1 hG) (by omega)).mono ?_
        rintro e w2 ⟨v, rfl, HO, hb2⟩
        have hbel2 := hbel1.trans (hb2.mono (by omega))
        cases hco : codes (nats cs) with
        | none =>
          have He := veil (checkErr_bad Hg.out Hs.out (fun h => by rw [hco] at h; cases h.1))
          simp only [Option.isSome_none]
          go_wp2
          go_ret
          exact ⟨by rw [He.out]; rfl, hbel2⟩
        | some l =>
          simp only [Option.isSome_some]
          have hll : l.length = syms.length := (codes_length hco).trans Hg.out.sum
          have hw : tabWords (nats cs) syms = mkWords syms l := by unfold tabWords; rw [hco]; rfl
          rw [hw] at HO
          have hwl : (mkWords syms l).length = syms.length := by rw [mkWords_length _ _ (by omega), hll]
          have hfst := mkWords_fst hll
          have hnd := symS_nodup (mkWords syms l)
          rw [hfst] at hnd
          have hwf : ∀ t ∈ mkWords syms l, WF t.1 := by
            intro t ht
            have h1 : t.1 ∈ syms := by rw [← hfst]; exact List.mem_map_of_mem ht
            have := Hs.out _ h1
            exact wf_of (by omega)
          have Hwf := veil hwf
          obtain ⟨A5, c5, e5, hs5, _, _⟩ := HO.seen (List.mem_cons_self ..)
          simp only [wordRow] at e5 hs5
          rw [hwl] at e5 hnd
          subst e5
          have Hwl := veil hwl; have Hnd := veil hnd; have Hco := veil hco
          clear hwl hnd hfst hw hll hwf hco HO
          have hby := fun w0 (h : Seen w0 w2.heap.size A5 (tripleCells (mkWords syms l))) hG0 => bySymbol_any A5 c5 w2.heap.size (mkWords syms l) w0 h hG0 (by rw [Hwl.out]; omega) Hwf.out
          rw [Hwl.out] at hby
          have Hby := veil hby; clear hby
          generalize mkWords syms l = ws at *
          have hcn : (codes (nats cs)).isSome = true := by rw [Hco.out]; rfl
          have Hcn := veil hcn; clear hcn
          generalize hS : symS ws = S at *
          have Hle : S ≤ syms.length := Hnd.out.1
          go_wp2_with fail
          refine (Hby.out _ hs5 (Nat.le_refl _)).mono ?_
          rintro e w3 ⟨b, rfl, hbb, HM, hb3⟩
          have hml := fun ty => HM.len ty
          have hbel3 := hbel2.trans (hb3.mono hbel2.size)
          by_cases hnd : syms.Nodup
          · have He := veil (checkErr_ok Hg.out Hs.out Hcn.out hnd)
            have hSl := Hnd.out.2.2 hnd
            have hSl' : ¬ (S : Int) < (syms.length : Int) := by omega
            clear hSl hnd HM hs5
            go_wp2
            go_ret
            exact ⟨by rw [He.out]; rfl, hbel3⟩
          · have He := veil (checkErr_bad Hg.out Hs.out fun h => hnd h.2)
            have hSl : S ≠ syms.length := fun e => hnd (Hnd.out.2.1 e)
            have hSl' : (S : Int) < (syms.length : Int) := by omega
            clear hSl hnd HM hs5
            go_wp2
            go_ret
            exact ⟨by rw [He.out]; rfl, hbel3⟩
  · have hgb : goodB cs syms.length = false := goodB_no hgood
    have He := veil (checkErr_form hgood)
    have Hgb := veil hgb; clear hgb hgood
    go_enter Try.func21, Try.ntmps21
    go_wp2_with (first
      | (refine wpList_load_mid rfl 27 (.tmp 1) rfl w.heap.size 0 rfl xs _ Hr.out Try.underlying27 rfl (by rw [H17.out]; exact info_tab) ?_)
      | fail)
    refine (Hcm.out _).mono ?_
    rintro e w1 ⟨rfl, hb1⟩
    rw [Hgb.out]
    go_wp2
    go_ret
    exact ⟨by rw [He.out]; rfl, (below1 _ _).trans (hb1.mono (by simp))⟩
end Go.Proofs.Ytmdjhbkpekepgaa

/- table.Words: its contract. -/
namespace Go.Proofs.Ytmdjhbkpekepgaa
open Go.RowKit
set_option linter.unusedVariables false
set_option linter.unusedSimpArgs false
set_option maxRecDepth 100000

end Go.Proofs.Ytmdjhbkpekepgaa

/- Two small facts on numbers. -/
namespace Go.Proofs.Ytmdjhbkpekepgaa
open Go.RowKit
theorem wrap64_nat (n : Nat) (h : n < 9223372036854775808) : wrap64 (n : Int) = n := by unfold wrap64; omega
theorem two_pow_lt (a b : Nat) (h : a ≤ b) : 2 ^ a ≤ 2 ^ b := Nat.pow_le_pow_right (by omega) h
end Go.Proofs.Ytmdjhbkpekepgaa

/- The reference's binary digits: texts of zeros and ones. -/
namespace Go.Proofs.Ytmdjhbkpekepgaa
open Go.RowKit
set_option linter.unusedVariables false
set_option linter.unusedSimpArgs false
set_option maxRecDepth 100000

def digB (b : Bool) : UInt8 := if b then 49 else 48
def dig (l : List Bool) : List UInt8 := l.map digB
/-- The text of these digits. -/
def txt (l : List Bool) : ByteArray := ⟨(dig l).toArray⟩
theorem txt_append (a b : List Bool) : txt a ++ txt b = txt (a ++ b) := by
  apply ByteArray.ext; simp [txt, dig]
theorem txt_size (l : List Bool) : (txt l).size = l.length := by simp [txt, dig, ByteArray.size]

theorem enc_bit (q : Nat) : Utf8.encode (48 + (q : Int) % 2) = txt [decide (q % 2 = 1)] := by
  rcases Nat.mod_two_eq_zero_or_one q with h | h
  · have e : (q : Int) % 2 = 0 := by omega
    rw [e, h]; decide +kernel
  · have e : (q : Int) % 2 = 1 := by omega
    rw [e, h]; decide +kernel

theorem outside_any (n lo hi : Int) (w : World) : Calls Try.prog 22 #[.int .i64 n, .int .i64 lo, .int .i64 hi] w fun e w' => e = .returned (.bool (!(decide (lo ≤ n) && decide (n ≤ hi)))) ∧ w = w' := by
  have Hd : Hid (∀ b, b = (!(decide (lo ≤ n) && decide (n ≤ hi))) → b = (!(decide (lo ≤ n) && decide (n ≤ hi)))) := fun b h => h
  generalize hB : (!(decide (lo ≤ n) && decide (n ≤ hi))) = B at *
  have HB := veil hB; clear hB
  by_cases h1 : n < lo <;> by_cases h2 : hi < n <;>
  · go_enter Try.func22, Try.ntmps22
    go_wp2
    go_ret
    exact ⟨ret_bool (by rw [← HB.out]; symm; simp; omega), rfl⟩

set_option maxHeartbeats 400000 in
theorem binary_any (k n : Nat) (w : World) (hk : k ≤ 64) (hn : n < 9223372036854775808) :
    Calls Try.prog 51 #[.int .i64 k, .int .i64 n] w fun e w' => e = .returned (.string (txt (bitsN k n))) ∧ w = w' := by
  go_enter Try.func51, Try.ntmps51
  go_wp2_with fail
  go_loopg [1, 5, 7] k (fun gk nv s i wr => ∃ j : Nat, gk = k - j ∧ j ≤ k ∧ i = .int .i64 j ∧ nv = .int .i64 (n / 2 ^ j : Nat) ∧ s = .string (txt (bitsN j n)) ∧ w = wr)
  case atStart => exact ⟨0, rfl, Nat.zero_le _, rfl, by simp, rfl, rfl⟩
  case round =>
    obtain ⟨j, rfl, hj, rfl, rfl, rfl, rfl⟩ := hrel
    have hq : n / 2 ^ j < 9223372036854775808 := Nat.lt_of_le_of_lt (Nat.div_le_self _ _) hn
    by_cases hlt : j < k
    · generalize hQ : n / 2 ^ j = q at *
      have HQ := veil hQ; clear hQ
      have henc := enc_bit q
      have hsz : (Utf8.encode (48 + (q : Int) % 2)).size + (txt (bitsN j n)).size ≤ 9223372036854775807 := by
        rw [henc, txt_size, txt_size, bitsN_length]; simp; omega
      have Henc := veil henc; clear henc
      go_wp2
      go_roundg (k - (j + 1))
      case rel => exact ⟨j + 1, rfl, by omega, by go_num, by rw [Nat.pow_succ, ← Nat.div_div_eq_div_mul, HQ.out]; go_num, by rw [Henc.out, txt_append, ← HQ.out, Nat.add_comm j 1, bitsN_add]; rfl, rfl⟩
      case measure => omega
    · obtain rfl : j = k := by omega
      go_wp2
      go_ret
      exact ⟨rfl, rfl⟩
end Go.Proofs.Ytmdjhbkpekepgaa

/- The reference's power and outside. -/
namespace Go.Proofs.Ytmdjhbkpekepgaa
open Go.RowKit
set_option linter.unusedVariables false
set_option linter.unusedSimpArgs false
set_option maxRecDepth 100000

theorem power_any (k : Nat) (w : World) (h : k ≤ 24) : Calls Try.prog 50 #[.int .i64 k] w fun e w' => e = .returned (.int .i64 (2 ^ k : Nat)) ∧ w = w' := by
  go_enter Try.func50, Try.ntmps50
  go_wp2
  go_ret
  refine ⟨?_, rfl⟩
  have h1 : 2 ^ k ≤ 2 ^ 24 := two_pow_lt _ _ h
  have e : wrap64 ((2 : Int) ^ k) = ((2 ^ k : Nat) : Int) := by rw [show ((2 : Int) ^ k) = ((2 ^ k : Nat) : Int) by simp]; exact wrap64_nat _ (by omega)
  exact congrArg (fun x => Ending.returned (.int .i64 x)) e

theorem outside_yes (n lo hi : Int) (h : n < lo ∨ hi < n) (w : World) : Calls Try.prog 22 #[.int .i64 n, .int .i64 lo, .int .i64 hi] w fun e w' => e = .returned (.bool true) ∧ w' = w :=
  (outside_any n lo hi w).mono fun e w' h2 => ⟨by rw [h2.1]; refine ret_bool ?_; simp; omega, h2.2.symm⟩
theorem outside_no (n lo hi : Int) (h : lo ≤ n ∧ n ≤ hi) (w : World) : Calls Try.prog 22 #[.int .i64 n, .int .i64 lo, .int .i64 hi] w fun e w' => e = .returned (.bool false) ∧ w' = w :=
  (outside_any n lo hi w).mono fun e w' h2 => ⟨by rw [h2.1]; refine ret_bool ?_; simp; omega, h2.2.symm⟩
end Go.Proofs.Ytmdjhbkpekepgaa

/- The reference's words of a table, as binary digits. -/
namespace Go.Proofs.Ytmdjhbkpekepgaa
open Go.RowKit
set_option linter.unusedVariables false
set_option linter.unusedSimpArgs false
set_option maxRecDepth 100000

theorem elem_str : ElemOf Try.prog 85 9 1 16 := .mk' (z := .string .empty) Try.underlying85 (by kernel_rfl) rfl (by omega)
def strs (l : List (Nat × Nat)) : List Value := l.map fun p => .string (txt (bitsN p.1 p.2))
abbrev strRow (v : Value) (l : List (Nat × Nat)) : Row := ⟨9, 1, v, l.length, strs l⟩
theorem strRow_snoc (v : Value) (l : List (Nat × Nat)) (p : Nat × Nat) : (⟨9, 1, v, l.length + [Value.string (txt (bitsN p.1 p.2))].length, strs l ++ [.string (txt (bitsN p.1 p.2))]⟩ : Row) = strRow v (l ++ [p]) := by simp [strRow, strs]

set_option maxRecDepth 100000 in
set_option maxHeartbeats 2000000 in
theorem refWordsOf_any (ns : List Nat) (A : Option Addr) (n c : Nat) (w : World) (hns : ns.length = 16) (hsum : ns.sum ≤ 256) :
    Calls Try.prog 48 #[tabV (natI ns) A n c] w fun e w' => ∃ v, e = .returned (.tuple #[v, .bool (codes ns).isSome]) ∧ Owns w.heap.size [strRow v ((codes ns).getD [])] w' ∧ Below w.heap.size w w' := by
  have hcs : (natI ns).length = 16 := by rw [natI_length]; exact hns
  have hr : Hid (∀ xs, xs = tabCells (natI ns) A n c → (w.alloc (.cells xs.toArray 27)).rangeAt w.heap.size 0 (ints .i64 (natI ns))) := by
    show ∀ xs, _
    intro xs e
    subst e
    exact range_left (range_new w _ _)
  have Hcs := veil hcs; have Hns := veil hns; have Hsum := veil hsum
  clear hcs hns hsum
  obtain ⟨xs, hxs⟩ : ∃ xs, xs = tabCells (natI ns) A n c := ⟨_, rfl⟩
  have Hr := veil (hr.out xs hxs)
  unfold tabV
  rw [← hxs]
  clear hr hxs
  go_enter Try.func48, Try.ntmps48
  go_wp2_with (first
    | (refine wpList_load_mid rfl 24 (.tmp 8) rfl w.heap.size 0 rfl (ints .i64 (natI ns)) _ Hr.out Try.underlying24 rfl (by rw [ints_length, Hcs.out]; exact info_arr) ?_)
    | fail)
  go_loopg [4, 5, 6, 7, 10] 16 (fun gk v cv kv nv i wr => ∃ (k cd : Nat) (acc : List (Nat × Nat)), gk = 16 - k ∧ k ≤ 16 ∧ i = .int .i64 k ∧ cv = .int .i64 cd ∧ Hid (CInv ns k (2 * cd) acc) ∧ Owns w.heap.size [strRow v acc] wr ∧ Below w.heap.size w wr)
  case atStart => exact ⟨0, 0, [], rfl, by omega, rfl, rfl, veil (CInv.start ns), (Owns.nil (by simp)).fresh _ _, below1 _ _⟩
  case round =>
    obtain ⟨k, cd0, acc, rfl, hk, rfl, rfl, HI, HO, hbel⟩ := hrel
    by_cases hlt : k < 16
    · obtain ⟨q, hq⟩ := some_at (xs := ns) (j := k) (by rw [Hns.out]; omega)
      have hcd := HI.out.2.1
      have hp16 : 2 ^ (k + 1) ≤ 2 ^ 16 := Nat.pow_le_pow_right (by omega) (by omega)
      have hacc : acc.length + q ≤ 256 := by
        have h1 := take_sum hq
        have h2 : (ns.take (k + 1)).sum + (ns.drop (k + 1)).sum = ns.sum := by rw [← List.sum_append, List.take_append_drop]
        have := Hsum.out
        have := HI.out.2.2
        omega
      obtain ⟨cd, hcd0⟩ : ∃ cd, cd = 2 * cd0 := ⟨_, rfl⟩
      rw [← hcd0] at HI hcd
      have Hn := veil hq; have Hcd := veil hcd; have Hp16 := veil hp16
      have hcd2 : cd < 65536 := by omega
      have hq2 : q ≤ 256 := by omega
      have hw2 : (cd0 : Int) * 2 = (cd : Int) := by omega
      have Hcd0 := veil hcd0
      clear hq hcd hp16 hcd0
      go_wp2_with (first
        | (refine wpList_index_arr rfl 24 (.tmp 9) (.tmp 10) rfl 16 3 .i64 Try.underlying24 Try.underlying3 info_int1 (ints .i64 (natI ns)) rfl .i64 k rfl (.int .i64 (q : Int)) hlt (ints_at (natI_at Hn.out)) ?_)
        | fail)
      obtain ⟨N, hN⟩ : ∃ N, N = 2 ^ (k + 1) - 1 := ⟨_, rfl⟩
      have hN2 : N < 65536 := by have := Hp16.out; omega
      have HN := veil hN
      have hpw := fun w => power_any (k + 1) w (by omega)
      have hp0 : 0 < 2 ^ (k + 1) := Nat.pow_pos (by omega)
      have hN1 : 2 ^ (k + 1) = N + 1 := by omega
      rw [hN1] at hpw
      clear hN hp0 hN1
      have Hpw := veil hpw; clear hpw
      go_loopg [4, 5, 17] q (fun gk v cv i wr2 => ∃ j : Nat, gk = q - j ∧ j ≤ q ∧ i = .int .i64 j ∧ cv = .int .i64 ((cd + j : Nat) : Int) ∧ Hid (cd + j ≤ N) ∧ Owns w.heap.size [strRow v (acc ++ wordsTo k cd j)] wr2 ∧ Below w.heap.size w wr2)
      case atStart => exact ⟨0, rfl, Nat.zero_le _, rfl, by go_num, veil (by have := Hcd.out; have := HN.out; omega), by simpa [wordsTo] using HO, hbel⟩
      case round =>
        obtain ⟨j, rfl, hj, rfl, rfl, HJ, HO2, hbel2⟩ := hrel
        have hz2 := hbel2.size
        by_cases hjn : j < q
        · have hpw := Hpw.out wr
          rw [show (((k + 1 : Nat)) : Int) = (k : Int) + 1 from rfl, show (((N + 1 : Nat)) : Int) = (N : Int) + 1 from rfl] at hpw
          have Hp := veil hpw; clear hpw
          by_cases hf : N ≤ cd + j
          · have hd := HI.out.fail Hn.out hjn (by rw [← HN.out]; exact hf)
            have Hd := veil hd; clear hd
            have hf' : (N : Int) ≤ (cd : Int) + j := by omega
            go_wp2_with fail
            refine Hp.out.mono ?_
            rintro e w3 ⟨rfl, rfl⟩
            go_wp2
            go_ret2
            exact ⟨_, ret_two rfl (by rw [Hd.out]; rfl), by rw [Hd.out]; exact (Owns.nil hbel2.size).fresh _ _, hbel2⟩
          · have hf' : ¬ (N : Int) ≤ (cd : Int) + j := by omega
            have hbn := binary_any (k + 1) (cd + j) wr (by omega) (by omega)
            rw [show (((k + 1 : Nat)) : Int) = (k : Int) + 1 from rfl, show (((cd + j : Nat)) : Int) = (cd : Int) + j from rfl] at hbn
            have Hbn := veil hbn; clear hbn
            have hlen : (acc ++ wordsTo k cd j).length = acc.length + j := by rw [List.length_append, wordsTo_length]
            have hap : acc ++ wordsTo k cd (j + 1) = (acc ++ wordsTo k cd j) ++ [(k + 1, cd + j)] := by rw [wordsTo_snoc, List.append_assoc]
            have Hlen := veil hlen; have Hap := veil hap
            clear hlen hap
            generalize acc ++ wordsTo k cd j = ws at *
            go_wp2_with fail
            refine Hp.out.mono ?_
            rintro e w3 ⟨rfl, rfl⟩
            go_wp2_with fail
            refine Hbn.out.mono ?_
            rintro e w3 ⟨rfl, rfl⟩
            go_wp2_with (first
              | (at_builtin; go_loud (refine wpList_ownN _ rfl (.tmp 25) (.tmp 30) _ rfl w.heap.size 9 16 elem_str u4 ws.length (strs ws) [] rfl HO2 [.string (txt (bitsN (k + 1) (cd + j)))] rfl (by simp [Value.oneCell']) (by have := Hlen.out; unfold maxLen; simp; omega) (by have := Hlen.out; simp; omega) ?_); intro v1 w1 HO3 hb3 hz3))
            rw [strRow_snoc _ _ (k + 1, cd + j)] at HO3
            go_roundg (q - (j + 1))
            case rel => exact ⟨j + 1, rfl, by omega, by go_num, by go_num, veil (by omega), by rw [Hap.out]; exact HO3, hbel2.trans hb3⟩
            case measure => omega
        · obtain rfl : j = q := by omega
          go_wp2
          go_roundg (16 - (k + 1))
          case rel => exact ⟨k + 1, cd + j, acc ++ wordsTo k cd j, rfl, by omega, by go_num, rfl, veil (HI.out.next Hn.out (by rw [← HN.out]; exact HJ.out)), HO2, hbel2⟩
          case measure => omega
    · obtain rfl : k = 16 := by omega
      have hd : codes ns = some acc := by have h := HI.out; rw [← Hns.out] at h; exact h.done
      have Hd := veil hd; clear hd
      go_wp2
      go_ret2
      exact ⟨_, ret_two rfl (by rw [Hd.out]; rfl), by rw [Hd.out]; exact HO, hbel⟩
end Go.Proofs.Ytmdjhbkpekepgaa

/- The reference's Has at numbers. -/
namespace Go.Proofs.Ytmdjhbkpekepgaa
open Go.RowKit
set_option linter.unusedVariables false
set_option linter.unusedSimpArgs false
set_option maxRecDepth 100000

theorem hasInt (A : Option Addr) (c G : Nat) (xs : List Int) (y : Int) (w : World) (hx : Seen w G A (ints .i64 xs)) (hl : xs.length ≤ maxLen) :
    Calls Try.prog 47 #[.slice A xs.length c, .int .i64 y] w fun e w' => e = .returned (.bool (decide (y ∈ xs))) ∧ w = w' := by
  unfold maxLen at hl
  go_enter Try.func47, Try.ntmps47
  go_wp2_with fail
  go_loopg [6, 9] xs.length (fun gk v i wr => ∃ k : Nat, gk = xs.length - k ∧ k ≤ xs.length ∧ i = .int .i64 k ∧ Hid (y ∉ xs.take k) ∧ w = wr)
  case atStart => exact ⟨0, rfl, Nat.zero_le _, rfl, veil (by simp), rfl⟩
  case round =>
    obtain ⟨k, rfl, hk, rfl, HN, rfl⟩ := hrel
    by_cases hlt : k < xs.length
    · obtain ⟨g, o, x, rfl, _, hxk, h1⟩ := hx.int hlt
      have Hx := veil hxk; clear hxk
      by_cases hxy : y = x
      · have hb : (y == x) = true := by simpa using hxy
        have hm : y ∈ xs := by rw [hxy]; exact List.mem_of_getElem? Hx.out
        have Hd := veil (decide_eq_true hm)
        clear hxy hm
        go_wp2
        go_ret
        exact ⟨ret_bool Hd.out.symm, rfl⟩
      · have hb : (y == x) = false := by simpa using hxy
        have Hxy := veil hxy; clear hxy
        go_wp2
        go_roundg (xs.length - (k + 1))
        case rel =>
          refine ⟨k + 1, rfl, by omega, by go_num, veil ?_, rfl⟩
          rw [take_snoc Hx.out]
          intro h
          rcases List.mem_append.1 h with h | h
          · exact HN.out h
          · simp at h; exact Hxy.out h
        case measure => omega
    · obtain rfl : k = xs.length := by omega
      have hm : y ∉ xs := by have := HN.out; rw [List.take_length] at this; exact this
      have Hd := veil (decide_eq_false hm)
      clear hm
      go_wp2
      go_ret
      exact ⟨ret_bool Hd.out.symm, rfl⟩
end Go.Proofs.Ytmdjhbkpekepgaa

/- The reference's check of a table: the same contract as Check's. -/
namespace Go.Proofs.Ytmdjhbkpekepgaa
open Go.RowKit
set_option linter.unusedVariables false
set_option linter.unusedSimpArgs false
set_option maxRecDepth 100000

theorem run_take_ints (A : Option Addr) (n c h : Nat) (h2 : h ≤ c) (u : World) : (Instr.sliceAt 25 (.slice A n c) none (some (.int .i64 (h : Int))) none).run Try.prog u = .ok (.slice A h c) u := by
  have he : Try.prog.underlying 25 = some (.slice (Try.prog.elem 25)) := by kernel_rfl
  have hz : (sizeOf (Try.prog.elem 25)).run Try.prog u = .ok 1 u := by kernel_rfl
  rw [run_sliceAt_slice _ _ _ _ _ _ he, run_slice_h _ _ _ _ _ he _ _ (by omega) (by omega), hz]
  cases A <;> simp [Result.andThen, sliced, Addr.add]
theorem notGood_sum {cs : List Int} {n k : Nat} (h0 : ∀ x ∈ cs.take k, 0 ≤ x) (h : 256 < sumW (cs.take k)) : ¬ Good cs n := by
  rintro ⟨h1, h2, h3⟩
  have e : sumW cs = sumW (cs.take k) + sumW (cs.drop k) := by
    conv => lhs; rw [← List.take_append_drop k cs, sumW_app]
  have h5 := sumW_pos (cs.drop k) fun y hy => h1 y (List.mem_of_mem_drop hy)
  omega
theorem dup_snoc {syms : List Int} {k : Nat} {x : Int} (hx : syms[k]? = some x) (h : (syms.take k).Nodup) (hn : x ∉ syms.take k) : (syms.take (k + 1)).Nodup := by
  rw [take_snoc hx, List.nodup_append]
  refine ⟨h, by simp, fun a ha b hb => ?_⟩
  simp at hb
  subst hb
  intro e
  subst e
  exact hn ha
theorem dup_stop {syms : List Int} {k : Nat} {x : Int} (hx : syms[k]? = some x) (hn : x ∈ syms.take k) : ¬ syms.Nodup := by
  intro h
  have e : syms = syms.take (k + 1) ++ syms.drop (k + 1) := (List.take_append_drop _ _).symm
  rw [e, List.nodup_append, take_snoc hx, List.nodup_append] at h
  exact h.1.2.2 x hn x (by simp) rfl

set_option maxRecDepth 100000 in
set_option maxHeartbeats 2000000 in
theorem refCheck_any (cs syms : List Int) (A : Option Addr) (c G : Nat) (w : World) (hcs : cs.length = 16) (hn : syms.length ≤ maxLen) (hcap : syms.length ≤ c) (hb : ∀ x ∈ cs, -9223372036854775808 ≤ x ∧ x ≤ 9223372036854775807) (hs : Seen w G A (ints .i64 syms)) (hG : G ≤ w.heap.size) :
    Calls Try.prog 39 #[tabV cs A syms.length c] w fun e w' => e = .returned (.int .i64 (checkErr cs syms)) ∧ Below w.heap.size w w' := by
  have h16 : (tabCells cs A syms.length c)[16]? = some (.slice A syms.length c) := tabCells_last hcs
  have hlen17 : (tabCells cs A syms.length c).length = 17 := tabCells_length hcs
  have hr : Hid (∀ xs, xs = tabCells cs A syms.length c → (w.alloc (.cells xs.toArray 27)).rangeAt w.heap.size 0 (ints .i64 cs)) := by
    show ∀ xs, _
    intro xs e
    subst e
    exact range_left (range_new w _ _)
  have hwo : Hid (Good cs syms.length → ∀ w1, Calls Try.prog 48 #[tabV cs A syms.length c] w1 fun e w' => ∃ v, e = .returned (.tuple #[v, .bool (codes (nats cs)).isSome]) ∧ Owns w1.heap.size [strRow v ((codes (nats cs)).getD [])] w' ∧ Below w1.heap.size w1 w') := by
    show _ → _
    intro hg w1
    have := refWordsOf_any (nats cs) A syms.length c w1 (by rw [nats_length]; exact hcs) (by rw [hg.sum]; exact hg.le)
    rw [natI_nats hg.1] at this
    exact this
  have Hn := veil hn
  unfold maxLen at hn
  have Hb := veil hb
  have Hcs := veil hcs
  clear hb hcs
  obtain ⟨xs, hxs⟩ : ∃ xs, xs = tabCells cs A syms.length c := ⟨_, rfl⟩
  have Hr := veil (hr.out xs hxs)
  have Hrw := veil (range_new w xs 27)
  unfold tabV at hwo ⊢
  rw [← hxs] at h16 hlen17 hwo ⊢
  have H17 := veil hlen17
  clear hr hxs hlen17
  go_enter Try.func39, Try.ntmps39
  go_wp2_with (first
    | (refine wpList_load_mid rfl 24 (.tmp 12) rfl w.heap.size 0 rfl (ints .i64 cs) _ Hr.out Try.underlying24 rfl (by rw [ints_length, Hcs.out]; exact info_arr) ?_)
    | fail)
  have c16 : (w.alloc (.cells xs.toArray 27)).cell? ⟨w.heap.size, 16, none⟩ = some (.slice A syms.length c) := by rw [World.cell?_alloc_at _ _ _ _ rfl]; simpa using h16
  have hsW := hs.alloc hG (.cells xs.toArray 27)
  have hbW := below1 w (.cells xs.toArray 27)
  have hzW : w.heap.size < (w.alloc (.cells xs.toArray 27)).heap.size := by simp
  generalize w.alloc (.cells xs.toArray 27) = W at *
  clear h16 hs Hr
  go_loopg [3, 5, 14] 16 (fun gk s x i wr => ∃ k : Nat, gk = 16 - k ∧ k ≤ 16 ∧ i = .int .i64 k ∧ (∃ z : Int, s = .int .i64 z ∧ Hid (z = sumW (cs.take k)) ∧ 0 ≤ z ∧ z ≤ 256 * k) ∧ Hid (∀ x ∈ cs.take k, 0 ≤ x) ∧ W = wr)
  case atStart => exact ⟨0, rfl, by omega, rfl, ⟨0, rfl, veil rfl, by omega, by omega⟩, veil (by simp), rfl⟩
  case round =>
    obtain ⟨k, rfl, hk, rfl, ⟨z, rfl, Hz, hz0, hz1⟩, Hp, rfl⟩ := hrel
    by_cases hlt : k < 16
    · obtain ⟨x, hx⟩ := some_at (xs := cs) (j := k) (by rw [Hcs.out]; omega)
      have hxb := Hb.out x (List.mem_of_getElem? hx)
      have Hx := veil hx; clear hx
      by_cases hout : x < 0 ∨ 256 < x
      · have hg : ¬ Good cs syms.length := by
          rcases hout with h | h
          · exact good_stop Hx.out (.inl h)
          · exact good_stop Hx.out (.inr (by have := Hz.out; omega))
        have He := veil (checkErr_form hg)
        have Ho := veil (outside_yes x 0 256 hout W)
        clear hg hout
        go_wp2_with (first
          | (refine wpList_index_arr rfl 24 (.tmp 13) (.tmp 14) rfl 16 3 .i64 Try.underlying24 Try.underlying3 info_int1 (ints .i64 cs) rfl .i64 k rfl (.int .i64 x) hlt (ints_at Hx.out) ?_)
          | fail)
        refine Ho.out.mono ?_
        rintro e w3 ⟨rfl, rfl⟩
        go_wp2
        go_ret
        exact ⟨by rw [He.out]; rfl, hbW⟩
      · have hin : 0 ≤ x ∧ x ≤ 256 := by omega
        have Ho := veil (outside_no x 0 256 hin W)
        clear hout
        by_cases hz256 : 256 < z
        · have hg : ¬ Good cs syms.length := notGood_sum Hp.out (by rw [← Hz.out]; exact hz256)
          have He := veil (checkErr_form hg)
          clear hg
          go_wp2_with (first
            | (refine wpList_index_arr rfl 24 (.tmp 13) (.tmp 14) rfl 16 3 .i64 Try.underlying24 Try.underlying3 info_int1 (ints .i64 cs) rfl .i64 k rfl (.int .i64 x) hlt (ints_at Hx.out) ?_)
            | fail)
          refine Ho.out.mono ?_
          rintro e w3 ⟨rfl, rfl⟩
          go_wp2
          go_ret
          exact ⟨by rw [He.out]; rfl, hbW⟩
        · have hw : IntKind.i64.wrap (z + x) = z + x := by rw [IntKind.wrap_i64]; omega
          go_wp2_with (first
            | (refine wpList_index_arr rfl 24 (.tmp 13) (.tmp 14) rfl 16 3 .i64 Try.underlying24 Try.underlying3 info_int1 (ints .i64 cs) rfl .i64 k rfl (.int .i64 x) hlt (ints_at Hx.out) ?_)
            | fail)
          refine Ho.out.mono ?_
          rintro e w3 ⟨rfl, rfl⟩
          go_wp2
          go_roundg (16 - (k + 1))
          case rel => exact ⟨k + 1, rfl, by omega, by go_num, ⟨z + x, by go_num, veil (by rw [sumW_take Hx.out, ← Hz.out]), by omega, by omega⟩, veil (mem_snoc Hx.out Hp.out (by omega)), rfl⟩
          case measure => omega
    · obtain rfl : k = 16 := by omega
      have e : cs.take 16 = cs := by rw [List.take_of_length_le]; rw [Hcs.out]; omega
      have h3 := Hp.out
      have h4 := Hz.out
      rw [e] at h3 h4
      have H3 := veil h3; have H4 := veil h4
      clear e h3 h4
      by_cases hz256 : 256 < z
      · have hg : ¬ Good cs syms.length := fun h => by have := h.2.1; have := H4.out; omega
        have He := veil (checkErr_form hg)
        clear hg
        go_wp2
        go_ret
        exact ⟨by rw [He.out]; rfl, hbW⟩
      · by_cases hzn : z = (syms.length : Int)
        · have hg : Good cs syms.length := ⟨H3.out, by have := H4.out; omega, by have := H4.out; omega⟩
          have Hg := veil hg
          have hne : (z != (syms.length : Int)) = false := by simpa using hzn
          have h256 := hg.le
          clear hg hzn
          go_wp2_with fail
          go_loopg [7, 39] syms.length (fun gk x i wr => ∃ k : Nat, gk = syms.length - k ∧ k ≤ syms.length ∧ i = .int .i64 k ∧ Hid (∀ s ∈ syms.take k, 0 ≤ s ∧ s ≤ 255) ∧ W = wr)
          case atStart => exact ⟨0, rfl, Nat.zero_le _, rfl, veil (by simp), rfl⟩
          case round =>
            obtain ⟨k, rfl, hk2, rfl, HP, rfl⟩ := hrel
            by_cases hlt2 : k < syms.length
            · obtain ⟨g, o, x, rfl, hg, hx, h1⟩ := hsW.int hlt2
              have Hx := veil hx; clear hx
              by_cases hin : 0 ≤ x ∧ x ≤ 255
              · have Ho := veil (outside_no x 0 255 hin W)
                go_wp2_with fail
                refine Ho.out.mono ?_
                rintro e w3 ⟨rfl, rfl⟩
                go_wp2
                go_roundg (syms.length - (k + 1))
                case rel => exact ⟨k + 1, rfl, by omega, by go_num, veil (mem_snoc Hx.out HP.out hin), rfl⟩
                case measure => omega
              · have Ho := veil (outside_yes x 0 255 (by omega) W)
                have He := veil (checkErr_arg Hg.out (notSym Hx.out (by omega)))
                go_wp2_with fail
                refine Ho.out.mono ?_
                rintro e w3 ⟨rfl, rfl⟩
                go_wp2
                go_ret
                exact ⟨by rw [He.out]; rfl, hbW⟩
            · obtain rfl : k = syms.length := by omega
              have hsok : SymOk syms := by have := HP.out; rw [List.take_length] at this; exact this
              have Hs := veil hsok; clear hsok
              go_wp2_with fail
              go_loopg [8, 9, 49] syms.length (fun gk i0 x i wr => ∃ k : Nat, gk = syms.length - k ∧ k ≤ syms.length ∧ i = .int .i64 k ∧ Hid ((syms.take k).Nodup) ∧ W = wr)
              case atStart => exact ⟨0, rfl, Nat.zero_le _, rfl, veil (by simp), rfl⟩
              case round =>
                obtain ⟨j, rfl, hj2, rfl, HD, rfl⟩ := hrel
                by_cases hjt : j < syms.length
                · obtain ⟨g, o, x, rfl, hg, hx, h1⟩ := hsW.int hjt
                  have hcut := run_take_ints (some ⟨g, o, none⟩) syms.length c j (by omega) W
                  have htl : (syms.take j).length = j := by simp; omega
                  have hha := hasInt (some ⟨g, o, none⟩) c G (syms.take j) x W (hsW.takeInts j) (by rw [htl]; unfold maxLen; omega)
                  rw [htl] at hha
                  have Hx := veil hx; clear hx htl
                  by_cases hin : x ∈ syms.take j
                  · rw [decide_eq_true hin] at hha
                    have Hha := veil hha
                    have He := veil (checkErr_bad Hg.out Hs.out fun h => dup_stop Hx.out hin h.2)
                    clear hha hin
                    go_wp2_with fail
                    refine Hha.out.mono ?_
                    rintro e w3 ⟨rfl, rfl⟩
                    go_wp2
                    go_ret
                    exact ⟨by rw [He.out]; rfl, hbW⟩
                  · rw [decide_eq_false hin] at hha
                    have Hha := veil hha; have Hin := veil hin
                    clear hha hin
                    go_wp2_with fail
                    refine Hha.out.mono ?_
                    rintro e w3 ⟨rfl, rfl⟩
                    go_wp2
                    go_roundg (syms.length - (j + 1))
                    case rel => exact ⟨j + 1, rfl, by omega, by go_num, veil (dup_snoc Hx.out HD.out Hin.out), rfl⟩
                    case measure => omega
                · obtain rfl : j = syms.length := by omega
                  have hnd : syms.Nodup := by have := HD.out; rw [List.take_length] at this; exact this
                  have Hnd := veil hnd; clear hnd
                  have Hwo := veil (hwo.out Hg.out W)
                  go_wp2_with (first
                    | (refine wpList_load_mid rfl 27 (.tmp 1) rfl w.heap.size 0 rfl xs _ Hrw.out Try.underlying27 rfl (by rw [H17.out]; exact info_tab) ?_)
                    | fail)
                  refine Hwo.out.mono ?_
                  rintro e w2 ⟨v, rfl, HO, hb2⟩
                  have hbel2 := hbW.trans (hb2.mono (Nat.le_of_lt hzW))
                  cases hco : codes (nats cs) with
                  | none =>
                    have He := veil (checkErr_bad Hg.out Hs.out (fun h => by rw [hco] at h; cases h.1))
                    simp only [Option.isSome_none]
                    clear HO Hwo
                    go_wp2
                    go_ret
                    exact ⟨by rw [He.out]; rfl, hbel2⟩
                  | some l =>
                    have He := veil (checkErr_ok Hg.out Hs.out (by rw [hco]; rfl) Hnd.out)
                    simp only [Option.isSome_some]
                    clear HO Hwo
                    go_wp2
                    go_ret
                    exact ⟨by rw [He.out]; rfl, hbel2⟩
        · have hg : ¬ Good cs syms.length := fun h => hzn (by have := h.2.2; have := H4.out; omega)
          have He := veil (checkErr_form hg)
          have hne : (z != (syms.length : Int)) = true := by simpa using hzn
          clear hg hzn
          go_wp2
          go_ret
          exact ⟨by rw [He.out]; rfl, hbW⟩
end Go.Proofs.Ytmdjhbkpekepgaa

/- Two tables in one value; the reference's TablesCheck: its contract. -/
namespace Go.Proofs.Ytmdjhbkpekepgaa
open Go.RowKit
set_option linter.unusedVariables false
set_option linter.unusedSimpArgs false
set_option maxRecDepth 100000

/-- Two tables' cells. -/
def tabsCells (cs : List Int) (A : Option Addr) (n c : Nat) (cs2 : List Int) (A2 : Option Addr) (n2 c2 : Nat) : List Value := tabCells cs A n c ++ tabCells cs2 A2 n2 c2
abbrev tabsV (cs : List Int) (A : Option Addr) (n c : Nat) (cs2 : List Int) (A2 : Option Addr) (n2 c2 : Nat) : Value := .agg (tabsCells cs A n c cs2 A2 n2 c2).toArray
/-- What a check of both answers. -/
def eTs (cs syms cs2 syms2 : List Int) : Int := if checkErr cs syms = 0 then checkErr cs2 syms2 else checkErr cs syms
theorem range_right {w : World} {b o : Nat} {xs ys : List Value} (h : w.rangeAt b o (xs ++ ys)) : w.rangeAt b (o + xs.length) ys := fun j v hv => by
  have := h (xs.length + j) v (by rw [List.getElem?_append_right (by omega), Nat.add_sub_cancel_left]; exact hv)
  rw [Nat.add_assoc]; exact this
set_option maxRecDepth 100000 in
set_option maxHeartbeats 2000000 in
theorem tablesCheck_any (cs syms : List Int) (A : Option Addr) (c : Nat) (cs2 syms2 : List Int) (A2 : Option Addr) (c2 G : Nat) (w : World)
    (hcs : cs.length = 16) (hn : syms.length ≤ maxLen) (hcap : syms.length ≤ c) (hb : ∀ x ∈ cs, -9223372036854775808 ≤ x ∧ x ≤ 9223372036854775807) (hs : Seen w G A (ints .i64 syms))
    (hcs2 : cs2.length = 16) (hn2 : syms2.length ≤ maxLen) (hcap2 : syms2.length ≤ c2) (hb2 : ∀ x ∈ cs2, -9223372036854775808 ≤ x ∧ x ≤ 9223372036854775807) (hs2 : Seen w G A2 (ints .i64 syms2)) (hG : G ≤ w.heap.size) :
    Calls Try.prog 24 #[tabsV cs A syms.length c cs2 A2 syms2.length c2] w fun e w' => e = .returned (.int .i64 (eTs cs syms cs2 syms2)) ∧ Below w.heap.size w w' := by
  have h17 : (tabCells cs A syms.length c).length = 17 := tabCells_length hcs
  have h17b : (tabCells cs2 A2 syms2.length c2).length = 17 := tabCells_length hcs2
  have HC1 := veil (fun W h hG => refCheck_any cs syms A c G W hcs hn hcap hb h hG)
  have HC2 := veil (fun W h hG => refCheck_any cs2 syms2 A2 c2 G W hcs2 hn2 hcap2 hb2 h hG)
  have hb0 := below1 w (.cells (tabsCells cs A syms.length c cs2 A2 syms2.length c2).toArray 29)
  have hz0 : (w.alloc (.cells (tabsCells cs A syms.length c cs2 A2 syms2.length c2).toArray 29)).heap.size = w.heap.size + 1 := by simp
  have hr := range_new w (tabsCells cs A syms.length c cs2 A2 syms2.length c2) 29
  have hr1 := range_left hr
  have hr2 := range_right hr
  rw [h17] at hr2
  have HE : Hid (eTs cs syms cs2 syms2 = if checkErr cs syms = 0 then checkErr cs2 syms2 else checkErr cs syms) := rfl
  have H17 := veil h17
  have H17b := veil h17b
  clear hr h17 h17b hcs hcs2 hb hb2
  unfold tabsV
  unfold tabV at HC1 HC2
  generalize tabsCells cs A syms.length c cs2 A2 syms2.length c2 = zs at *
  generalize tabCells cs A syms.length c = xs at *
  generalize tabCells cs2 A2 syms2.length c2 = ys at *
  generalize eTs cs syms cs2 syms2 = E at *
  generalize checkErr cs syms = e1 at *
  generalize checkErr cs2 syms2 = e2 at *
  go_enter Try.func24, Try.ntmps24
  go_wp2_with (first
    | (refine wpList_load_mid rfl 27 (.tmp 4) rfl w.heap.size 0 rfl xs _ hr1 Try.underlying27 rfl (by rw [H17.out]; exact info_tab) ?_)
    | fail)
  refine (HC1.out _ (hs.below hb0 hG) (by rw [hz0]; omega)).mono ?_
  rintro e w1 ⟨rfl, hb1⟩
  have hr2' := range_below hr2 hb1 (by rw [hz0]; omega)
  have hbw := hb0.trans (hb1.mono (by rw [hz0]; omega))
  clear hr1 hr2 hb0 hb1 HC1
  by_cases h0 : e1 = 0
  · subst h0
    have hE := HE.out
    rw [if_pos rfl] at hE
    subst hE
    go_wp2_with (first
      | (refine wpList_load_mid rfl 27 (.tmp 10) rfl w.heap.size 17 rfl ys _ (by simpa using hr2') Try.underlying27 rfl (by rw [H17b.out]; exact info_tab) ?_)
      | fail)
    refine (HC2.out _ (hs2.below hbw hG) (by have := hbw.size; omega)).mono ?_
    rintro e w2 ⟨rfl, hb2⟩
    have hf := hbw.trans (hb2.mono hbw.size)
    go_wp2
    go_ret
    exact ⟨rfl, hf⟩
  · have hE := HE.out
    rw [if_neg h0] at hE
    subst hE
    have hne : (E != 0) = true := by simpa using h0
    clear h0
    go_wp2
    go_ret
    exact ⟨rfl, hbw⟩
end Go.Proofs.Ytmdjhbkpekepgaa

/- A block whose cells are all known, and one cell of it written. No program is named here. -/
namespace Go.Proofs.Ytmdjhbkpekepgaa
open Go.RowKit
set_option linter.unusedVariables false
set_option linter.unusedSimpArgs false
set_option maxRecDepth 100000

/-- Block b is these cells. -/
def Blk (w : World) (b : Nat) (xs : List Value) (t : TypeId) : Prop := w.heap[b]? = some (.cells xs.toArray t (0, 0))
section
variable {w w' : World} {b : Nat} {xs : List Value} {t : TypeId}
theorem Blk.new (w : World) (xs : List Value) (t : TypeId) : Blk (w.alloc (.cells xs.toArray t)) w.heap.size xs t := heap_alloc_last w _
theorem Blk.lt (h : Blk w b xs t) : b < w.heap.size := (Array.getElem?_eq_some_iff.1 h).1
theorem Blk.cell (h : Blk w b xs t) {i : Nat} {v : Value} (hv : xs[i]? = some v) : w.cell? ⟨b, i, none⟩ = some v := by
  rw [cell_of_row w b i _ _ _ h]; simpa using hv
theorem Blk.range (h : Blk w b xs t) : w.rangeAt b 0 xs := fun j v hv => by rw [Nat.zero_add]; exact h.cell hv
theorem Blk.below (h : Blk w b xs t) {C : Nat} (hb : Below C w w') (hC : b < C) : Blk w' b xs t := by
  unfold Blk at h ⊢; rw [hb.block b hC]; exact h
theorem Blk.set (h : Blk w b xs t) (i : Nat) (v : Value) : Blk (w.setCell ⟨b, i, none⟩ v) b (xs.set i v) t := by
  have := heap_setCell_same w b i xs.toArray t v h
  unfold Blk
  rw [this]
  simp
theorem Owns.setCell {B : Nat} {rs : List Row} (h : Owns B rs w) {a : Addr} (ha : a.block < B) (v : Value) : Owns B rs (w.setCell a v) := by
  refine ⟨by have := h.base; simpa [World.setCell] using this, fun r hr => ?_, h.apart⟩
  obtain ⟨h1, h2⟩ := h.each r hr
  refine ⟨h1, ?_⟩
  rcases h2 with h2 | ⟨g, cap, cur, hv, hg, hh, r⟩
  · exact .inl h2
  · exact .inr ⟨g, cap, cur, hv, hg, by rw [Below.heap_setCell _ _ _ _ (by omega)]; exact hh, r⟩
end
theorem Blk.kept {w w' : World} {b : Nat} {xs : List Value} {t : TypeId} {r : Option Nat} (h : Blk w b xs t) (hg : w.grownBy w' r) (hr : some b ≠ r) : Blk w' b xs t := by
  unfold Blk at h ⊢
  rw [hg.block b (Array.getElem?_eq_some_iff.1 h).1 hr]; exact h
theorem Owns.kept {w w' : World} {B b : Nat} {rs : List Row} (h : Owns B rs w) (hg : w.grownBy w' (some b)) (hb : b < B) : Owns B rs w' := by
  refine ⟨Nat.le_trans h.base hg.size, fun r hr => (h.each r hr).kept hg ?_, h.apart⟩
  cases hv : r.v.ownBlock with
  | none => exact .inl rfl
  | some g => exact .inr fun e => by injection e with e; have := ((h.each r hr).lt g hv).1; omega
end Go.Proofs.Ytmdjhbkpekepgaa

/- slices.Reverse over a row of numbers of the call's own: its contract. -/
namespace Go.Proofs.Ytmdjhbkpekepgaa
open Go.RowKit
set_option linter.unusedVariables false
set_option linter.unusedSimpArgs false
set_option maxRecDepth 100000

/-- The ends up to i are exchanged. -/
def Turned (l ls : List Int) (i : Nat) : Prop := ls.length = l.length ∧ ∀ k : Nat, k < l.length → ls[k]? = if k < i ∨ l.length - 1 - i < k then l[l.length - 1 - k]? else l[k]?
theorem Turned.start (l : List Int) : Turned l l 0 := ⟨rfl, fun k hk => by rw [if_neg (by omega)]⟩
theorem Turned.next {l ls : List Int} {i : Nat} {x y : Int} (h : Turned l ls i) (hi : i < l.length - 1 - i) (hx : ls[i]? = some x) (hy : ls[l.length - 1 - i]? = some y) : Turned l ((ls.set i y).set (l.length - 1 - i) x) (i + 1) := by
  obtain ⟨h1, h2⟩ := h
  refine ⟨by simpa using h1, fun k hk => ?_⟩
  rw [List.getElem?_set, List.getElem?_set]
  by_cases e1 : l.length - 1 - i = k
  · subst e1
    rw [if_pos rfl, if_pos (by simp; omega), if_pos (by omega), ← hx, h2 i (by omega), if_neg (by omega)]
    congr 1; omega
  · rw [if_neg e1]
    by_cases e2 : i = k
    · subst e2
      rw [if_pos rfl, if_pos (by omega), if_pos (by omega), ← hy, h2 _ (by omega), if_neg (by omega)]
    · rw [if_neg e2, h2 k hk]
      by_cases e3 : k < i ∨ l.length - 1 - i < k
      · rw [if_pos e3, if_pos (by omega)]
      · rw [if_neg e3, if_neg (by omega)]
theorem Turned.done {l ls : List Int} {i : Nat} (h : Turned l ls i) (hi : ¬ (i : Int) < (l.length : Int) - 1 - (i : Int)) : ls = l.reverse := by
  obtain ⟨h1, h2⟩ := h
  apply List.ext_getElem?
  intro k
  by_cases hk : k < l.length
  · rw [h2 k hk, List.getElem?_reverse hk]
    by_cases e : k < i ∨ l.length - 1 - i < k
    · rw [if_pos e]
    · rw [if_neg e]; congr 1; omega
  · rw [List.getElem?_eq_none (by omega), List.getElem?_eq_none (by simp; omega)]
end Go.Proofs.Ytmdjhbkpekepgaa

/- zig.diagonal: its contract. -/
namespace Go.Proofs.Ytmdjhbkpekepgaa
open Go.RowKit
set_option linter.unusedVariables false
set_option linter.unusedSimpArgs false
set_option maxRecDepth 100000

end Go.Proofs.Ytmdjhbkpekepgaa

/- zig.Order: its contract. -/
namespace Go.Proofs.Ytmdjhbkpekepgaa
open Go.RowKit
set_option linter.unusedVariables false
set_option linter.unusedSimpArgs false
set_option maxRecDepth 100000

end Go.Proofs.Ytmdjhbkpekepgaa

/- The order and its inverse, in numbers. -/
namespace Go.Proofs.Ytmdjhbkpekepgaa
open Go.RowKit
set_option linter.unusedVariables false
set_option linter.unusedSimpArgs false
set_option maxRecDepth 100000

end Go.Proofs.Ytmdjhbkpekepgaa

/- A block's value (64 numbers), and whether two are equal. -/
namespace Go.Proofs.Ytmdjhbkpekepgaa
open Go.RowKit
set_option linter.unusedVariables false
set_option linter.unusedSimpArgs false
set_option maxRecDepth 100000

/-- A block's value. -/
abbrev blkV (cs : List Int) : Value := .agg (ints .i64 cs).toArray
theorem info_blk : (Try.prog.info? 23).map (·.size) = some 64 := by kernel_rfl
theorem info_blkn {xs : List Value} (h : xs.length = 64) : (Try.prog.info? 23).map (·.size) = some xs.length := by rw [h]; exact info_blk
end Go.Proofs.Ytmdjhbkpekepgaa

/- The zero block, three blocks just laid, a block and a code handed back: what the walks over blocks share. -/
namespace Go.Proofs.Ytmdjhbkpekepgaa
open Go.RowKit
set_option linter.unusedVariables false
set_option linter.unusedSimpArgs false
set_option maxRecDepth 100000

end Go.Proofs.Ytmdjhbkpekepgaa

/- Rounding and clamping in numbers. -/
namespace Go.Proofs.Ytmdjhbkpekepgaa
open Go.RowKit
set_option linter.unusedVariables false
set_option linter.unusedSimpArgs false
set_option maxRecDepth 100000

end Go.Proofs.Ytmdjhbkpekepgaa

/- Rounding and clamping in numbers; blocks made number by number. -/
namespace Go.Proofs.Ytmdjhbkpekepgaa
open Go.RowKit
set_option linter.unusedVariables false
set_option linter.unusedSimpArgs false
set_option maxRecDepth 100000

/-- All numbers within bounds. -/
def inB (lo hi : Int) (cs : List Int) : Bool := cs.all fun x => decide (lo ≤ x) && decide (x ≤ hi)
theorem inB_mem {lo hi : Int} {cs : List Int} : inB lo hi cs = true ↔ ∀ x ∈ cs, lo ≤ x ∧ x ≤ hi := by simp [inB]
theorem inB_at {lo hi : Int} {cs : List Int} (h : inB lo hi cs = true) {i : Nat} {x : Int} (hx : cs[i]? = some x) : lo ≤ x ∧ x ≤ hi := inB_mem.1 h x (List.mem_of_getElem? hx)
def badB (lo hi : Int) (cs : List Int) : Int := if inB lo hi cs = true then 0 else 1
end Go.Proofs.Ytmdjhbkpekepgaa

/- Files as bytes, in numbers: what Check, Pack and Parse answer; there and back; what is cut off. -/
namespace Go.Proofs.Ytmdjhbkpekepgaa
open Go.RowKit
set_option linter.unusedVariables false
set_option linter.unusedSimpArgs false
set_option maxRecDepth 100000

/-- A file's parts. -/
structure FileL where
  wide : Int
  high : Int
  parts : Int
  q : List Int
  cs : List Int
  syms : List Int
  cs2 : List Int
  syms2 : List Int
  every : Int
  data : List Int
/-- Its lists have their lengths. -/
structure FileL.Form (f : FileL) : Prop where
  q : f.q.length = 64
  cs : f.cs.length = 16
  cs2 : f.cs2.length = 16
def badF (f : FileL) : Prop := f.wide < 1 ∨ 64 < f.wide ∨ f.high < 1 ∨ 64 < f.high ∨ (f.parts ≠ 1 ∧ f.parts ≠ 3) ∨ f.every < 0 ∨ 100 < f.every ∨ inB 1 255 f.q = false
instance (f : FileL) : Decidable (badF f) := by unfold badF; infer_instance
/-- What Check says. -/
def eFile (f : FileL) : Int :=
  if badF f then 1 else if eTs f.cs f.syms f.cs2 f.syms2 ≠ 0 then eTs f.cs f.syms f.cs2 f.syms2 else if 90000 < f.data.length then 2 else 0
/-- Counts out of bytes. -/
def cntN (n : Nat) (bs : List Int) : List Int := (List.range n).map fun k => 256 * bs.getD (2 * k) 0 + bs.getD (2 * k + 1) 0
/-! ### what Parse reads -/
def n1F (bs : List Int) : Nat := (sumW (cntN 16 (bs.drop 70))).toNat
def n2F (bs : List Int) : Nat := (sumW (cntN 16 (bs.drop (102 + n1F bs)))).toNat
def shortF (bs : List Int) : Prop := bs.length < 102 ∨ bs.length < 102 + n1F bs ∨ bs.length < 134 + n1F bs ∨ bs.length < 134 + n1F bs + n2F bs
instance (bs : List Int) : Decidable (shortF bs) := by unfold shortF; infer_instance
/-- No file. -/
def noF : FileL := { wide := 0, high := 0, parts := 0, q := List.replicate 64 0, cs := List.replicate 16 0, syms := [], cs2 := List.replicate 16 0, syms2 := [], every := 0, data := [] }
end Go.Proofs.Ytmdjhbkpekepgaa

/- A file in one value, and in memory. -/
namespace Go.Proofs.Ytmdjhbkpekepgaa
open Go.RowKit
set_option linter.unusedVariables false
set_option linter.unusedSimpArgs false
set_option maxRecDepth 100000

/-- A file's cells: three numbers, 64, two tables, a number, a slice of bytes. -/
def fileCells (f : FileL) (A : Option Addr) (c : Nat) (A2 : Option Addr) (c2 : Nat) (A3 : Option Addr) (c3 : Nat) : List Value :=
  [.int .i64 f.wide, .int .i64 f.high, .int .i64 f.parts] ++ (ints .i64 f.q ++ (tabsCells f.cs A f.syms.length c f.cs2 A2 f.syms2.length c2 ++ [.int .i64 f.every, .slice A3 f.data.length c3]))
abbrev fileV (f : FileL) (A : Option Addr) (c : Nat) (A2 : Option Addr) (c2 : Nat) (A3 : Option Addr) (c3 : Nat) : Value := .agg (fileCells f A c A2 c2 A3 c3).toArray
/-- A file whose slices lie in memory. -/
structure FileIn (f : FileL) (A : Option Addr) (c : Nat) (A2 : Option Addr) (c2 : Nat) (A3 : Option Addr) (c3 G : Nat) (w : World) : Prop where
  form : f.Form
  max : f.syms.length ≤ maxLen
  cap : f.syms.length ≤ c
  bnd : ∀ x ∈ f.cs, -9223372036854775808 ≤ x ∧ x ≤ 9223372036854775807
  see : Seen w G A (ints .i64 f.syms)
  max2 : f.syms2.length ≤ maxLen
  cap2 : f.syms2.length ≤ c2
  bnd2 : ∀ x ∈ f.cs2, -9223372036854775808 ≤ x ∧ x ≤ 9223372036854775807
  see2 : Seen w G A2 (ints .i64 f.syms2)
  bytes : Bytes f.data
  max3 : f.data.length ≤ maxLen
  cap3 : f.data.length ≤ c3
  see3 : Seen w G A3 (ints .u8 f.data)
theorem FileIn.below {f : FileL} {A : Option Addr} {c : Nat} {A2 : Option Addr} {c2 : Nat} {A3 : Option Addr} {c3 G B : Nat} {w w' : World} (h : FileIn f A c A2 c2 A3 c3 G w) (hb : Below B w w') (hG : G ≤ B) : FileIn f A c A2 c2 A3 c3 G w' :=
  ⟨h.form, h.max, h.cap, h.bnd, h.see.below hb hG, h.max2, h.cap2, h.bnd2, h.see2.below hb hG, h.bytes, h.max3, h.cap3, h.see3.below hb hG⟩
theorem fileCells_length {f : FileL} (h : f.Form) (A : Option Addr) (c : Nat) (A2 : Option Addr) (c2 : Nat) (A3 : Option Addr) (c3 : Nat) : (fileCells f A c A2 c2 A3 c3).length = 103 := by
  unfold fileCells tabsCells
  rw [List.length_append, List.length_append, List.length_append, List.length_append, tabCells_length h.cs, tabCells_length h.cs2, ints_length, h.q]; rfl
/-- Where a file's parts lie. -/
structure FileAt (f : FileL) (A : Option Addr) (c : Nat) (A2 : Option Addr) (c2 : Nat) (A3 : Option Addr) (c3 : Nat) (w : World) (b : Nat) : Prop where
  wide : w.cell? ⟨b, 0, none⟩ = some (.int .i64 f.wide)
  high : w.cell? ⟨b, 1, none⟩ = some (.int .i64 f.high)
  parts : w.cell? ⟨b, 2, none⟩ = some (.int .i64 f.parts)
  q : w.rangeAt b 3 (ints .i64 f.q)
  tabs : w.rangeAt b 67 (tabsCells f.cs A f.syms.length c f.cs2 A2 f.syms2.length c2)
  every : w.cell? ⟨b, 101, none⟩ = some (.int .i64 f.every)
  data : w.cell? ⟨b, 102, none⟩ = some (.slice A3 f.data.length c3)
theorem fileAt_of {f : FileL} (h : f.Form) {A : Option Addr} {c : Nat} {A2 : Option Addr} {c2 : Nat} {A3 : Option Addr} {c3 : Nat} {w : World} {b : Nat} (hr : w.rangeAt b 0 (fileCells f A c A2 c2 A3 c3)) : FileAt f A c A2 c2 A3 c3 w b := by
  have r1 := range_right hr
  have r2 := range_right r1
  have r3 := range_right r2
  have e34 : (tabsCells f.cs A f.syms.length c f.cs2 A2 f.syms2.length c2).length = 34 := by unfold tabsCells; rw [List.length_append, tabCells_length h.cs, tabCells_length h.cs2]
  rw [ints_length, h.q] at r2 r3
  rw [e34] at r3
  exact ⟨hr 0 _ rfl, hr 1 _ rfl, hr 2 _ rfl, range_left r1, range_left r2, r3 0 _ rfl, r3 1 _ rfl⟩
theorem FileAt.below {f : FileL} {A : Option Addr} {c : Nat} {A2 : Option Addr} {c2 : Nat} {A3 : Option Addr} {c3 b B : Nat} {w w' : World} (h : FileAt f A c A2 c2 A3 c3 w b) (hb : Below B w w') (hB : b < B) : FileAt f A c A2 c2 A3 c3 w' b :=
  ⟨(hb.cell hB).trans h.wide, (hb.cell hB).trans h.high, (hb.cell hB).trans h.parts, range_below h.q hb hB, range_below h.tabs hb hB, (hb.cell hB).trans h.every, (hb.cell hB).trans h.data⟩
end Go.Proofs.Ytmdjhbkpekepgaa

/- Cells of a table, written. -/
namespace Go.Proofs.Ytmdjhbkpekepgaa
open Go.RowKit
set_option linter.unusedVariables false
set_option linter.unusedSimpArgs false
set_option maxRecDepth 100000

end Go.Proofs.Ytmdjhbkpekepgaa

/- A file's cells, written one by one; what Parse has read so far, in numbers. -/
namespace Go.Proofs.Ytmdjhbkpekepgaa
open Go.RowKit
set_option linter.unusedVariables false
set_option linter.unusedSimpArgs false
set_option maxRecDepth 100000

/-- A file's cells, its tables' slices by their numbers. -/
def fileK (f : FileL) (a : Nat → Option Addr) (c : Nat → Nat) (A3 : Option Addr) (c3 : Nat) : List Value := fileCells f (a 0) (c 0) (a 1) (c 1) A3 c3
section
variable {f : FileL} {a : Nat → Option Addr} {c : Nat → Nat} {A3 : Option Addr} {c3 : Nat}
end
/-! ### what is read of the tables -/
section
variable (bs : List Int)
end
end Go.Proofs.Ytmdjhbkpekepgaa

/- Small laws for two appends in one statement (a region that draws its order): where each source lies, in whatever order. No program is named here. -/
namespace Go.Proofs.Ytmdjhbkpekepgaa
open Go.RowKit
set_option linter.unusedVariables false
set_option linter.unusedSimpArgs false
set_option maxRecDepth 100000

end Go.Proofs.Ytmdjhbkpekepgaa

/- Parts of a slice of bytes. -/
namespace Go.Proofs.Ytmdjhbkpekepgaa
open Go.RowKit
set_option linter.unusedVariables false
set_option linter.unusedSimpArgs false
set_option maxRecDepth 100000

end Go.Proofs.Ytmdjhbkpekepgaa

/- Rows of bytes. -/
namespace Go.Proofs.Ytmdjhbkpekepgaa
open Go.RowKit
set_option linter.unusedVariables false
set_option linter.unusedSimpArgs false
set_option maxRecDepth 100000

end Go.Proofs.Ytmdjhbkpekepgaa

/- No file; what Parse hands back; what is read, in memory. -/
namespace Go.Proofs.Ytmdjhbkpekepgaa
open Go.RowKit
set_option linter.unusedVariables false
set_option linter.unusedSimpArgs false
set_option maxRecDepth 100000

/-- No file's cells. -/
def noCells : List Value := fileK noF (fun _ => none) (fun _ => 0) none 0
theorem info_file {xs : List Value} (h : xs.length = 103) : (Try.prog.info? 32).map (·.size) = some xs.length := by rw [h]; kernel_rfl
theorem run_zero_file (u : World) : Sem.run Try.prog (zeroValue 32) u = .ok (.agg noCells.toArray) u := by kernel_rfl
theorem FileIn.up {f : FileL} {A : Option Addr} {c : Nat} {A2 : Option Addr} {c2 : Nat} {A3 : Option Addr} {c3 G G' : Nat} {w : World} (h : FileIn f A c A2 c2 A3 c3 G w) (hG : G ≤ G') : FileIn f A c A2 c2 A3 c3 G' w :=
  ⟨h.form, h.max, h.cap, h.bnd, h.see.up hG, h.max2, h.cap2, h.bnd2, h.see2.up hG, h.bytes, h.max3, h.cap3, h.see3.up hG⟩
theorem noF_in (w : World) (G : Nat) : FileIn noF none 0 none 0 none 0 G w where
  form := ⟨rfl, rfl, rfl⟩
  max := Nat.zero_le _
  cap := Nat.le_refl _
  bnd := by intro x hx; rw [(List.mem_replicate.1 (show x ∈ List.replicate 16 (0 : Int) from hx)).2]; omega
  see := .inl rfl
  max2 := Nat.zero_le _
  cap2 := Nat.le_refl _
  bnd2 := by intro x hx; rw [(List.mem_replicate.1 (show x ∈ List.replicate 16 (0 : Int) from hx)).2]; omega
  see2 := .inl rfl
  bytes := fun x hx => by cases hx
  max3 := Nat.zero_le _
  cap3 := Nat.le_refl _
  see3 := .inl rfl
end Go.Proofs.Ytmdjhbkpekepgaa

/- What file's Check, Pack and Parse are to do, as the laws use it. -/
namespace Go.Proofs.Ytmdjhbkpekepgaa
open Go.RowKit
set_option linter.unusedVariables false
set_option linter.unusedSimpArgs false
set_option maxRecDepth 100000

/-- file.Check's contract. -/
def FCheckSpec : Prop := ∀ (f : FileL) (A : Option Addr) (c : Nat) (A2 : Option Addr) (c2 : Nat) (A3 : Option Addr) (c3 G : Nat) (w : World), FileIn f A c A2 c2 A3 c3 G w → G ≤ w.heap.size →
    Calls Try.prog 9 #[fileV f A c A2 c2 A3 c3] w fun e w' => e = .returned (.int .i64 (eFile f)) ∧ Below w.heap.size w w'
/-- Check of no file. -/
theorem noCheck_any (HK : FCheckSpec) (w : World) : Calls Try.prog 9 #[.agg noCells.toArray] w fun e w' => e = .returned (.int .i64 1) ∧ Below w.heap.size w w' := by
  have h := HK noF none 0 none 0 none 0 w.heap.size w (noF_in w _) (Nat.le_refl _)
  have e : eFile noF = 1 := if_pos (.inl (by decide))
  rw [e] at h
  exact h
end Go.Proofs.Ytmdjhbkpekepgaa

/- The reference's outside, in a text of its own. -/
namespace Go.Proofs.Ytmdjhbkpekepgaa
open Go.RowKit
set_option linter.unusedVariables false
set_option linter.unusedSimpArgs false
set_option maxRecDepth 100000

theorem out_yes (n lo hi : Int) (h : n < lo ∨ hi < n) (w : World) : Calls Try.prog 22 #[.int .i64 n, .int .i64 lo, .int .i64 hi] w fun e w' => e = .returned (.bool true) ∧ w' = w := by
  go_enter Try.func22, Try.ntmps22
  go_wp2
  all_goals (go_ret; exact ⟨ret_bool (by simp <;> omega), rfl⟩)
theorem out_no (n lo hi : Int) (h : lo ≤ n ∧ n ≤ hi) (w : World) : Calls Try.prog 22 #[.int .i64 n, .int .i64 lo, .int .i64 hi] w fun e w' => e = .returned (.bool false) ∧ w' = w := by
  go_enter Try.func22, Try.ntmps22
  go_wp2
  all_goals (go_ret; exact ⟨ret_bool (by simp <;> omega), rfl⟩)
end Go.Proofs.Ytmdjhbkpekepgaa

/- quant.Round, clamp, within, Check, checkBoth: their contracts. -/
namespace Go.Proofs.Ytmdjhbkpekepgaa
open Go.RowKit
set_option linter.unusedVariables false
set_option linter.unusedSimpArgs false
set_option maxRecDepth 100000

/-- A long load, also behind a guard that lets it run. -/
theorem wpList_load_long {P : Program} {ops : Array Oper} {rest : List Oper} {op : Oper} {a : Act} {w : World} {Q : Exit → Act → World → Prop} (hgd : Region.wanted op (yielded ops a.tmps) = true) (ty : TypeId) (x : Operand) (ho : op.op = .load ty x)
    (b o : Nat) (hx : a.eval x = .pointer (some ⟨b, o, none⟩)) (cs : List Value) (d : TypeDesc) (hc : w.rangeAt b o cs)
    (hu : P.underlying ty = some d) (hd : d.isRow = true) (hi : (P.info? ty).map (·.size) = some cs.length)
    (h : wpList P ops Q rest (a.put op.dst (.agg cs.toArray)) w) : wpList P ops Q (op :: rest) a w :=
  wpList_step fun K hK => by
    rw [if_pos hgd]
    exact wp_load_mid ty x ho b o hx cs d hc hu hd hi (hK _ _ h)
theorem inB_take {lo hi : Int} {cs : List Int} {k : Nat} {x : Int} (hx : cs[k]? = some x) (h : inB lo hi (cs.take k) = true) (h1 : lo ≤ x) (h2 : x ≤ hi) : inB lo hi (cs.take (k + 1)) = true := by
  rw [take_snoc hx]; unfold inB at *; rw [List.all_append, h]; simp [h1, h2]
theorem inB_not {lo hi : Int} {cs : List Int} {k : Nat} {x : Int} (hx : cs[k]? = some x) (h : ¬ (lo ≤ x ∧ x ≤ hi)) : badB lo hi cs = 1 := by
  unfold badB; rw [if_neg]; intro h1; exact h (inB_at h1 hx)
theorem inB_all {lo hi : Int} {cs : List Int} (hc : cs.length = 64) (h : inB lo hi (cs.take 64) = true) : badB lo hi cs = 0 := by
  rw [List.take_of_length_le (by omega)] at h; unfold badB; rw [if_pos h]
set_option maxHeartbeats 1000000 in
set_option maxRecDepth 100000 in
theorem within_any (cs : List Int) (lo hi : Int) (w : World) (hc : cs.length = 64) :
    Calls Try.prog 35 #[blkV cs, .int .i64 lo, .int .i64 hi] w fun e w' => e = .returned (.int .i64 (badB lo hi cs)) ∧ Below w.heap.size w w' := by
  have hb0 := below1 w (.cells (ints .i64 cs).toArray 23)
  have hr := range_new w (ints .i64 cs) 23
  have Hl : Hid ((ints .i64 cs).length = 64) := by show _ = _; rw [ints_length, hc]
  have Hat : Hid (∀ (k : Nat) (x : Int), cs[k]? = some x → (ints .i64 cs)[k]? = some (.int .i64 x)) := fun _ _ h => ints_at h
  obtain ⟨E, hE⟩ : ∃ E, E = badB lo hi cs := ⟨_, rfl⟩
  rw [← hE]
  have HE := veil hE; clear hE
  unfold blkV
  generalize ints .i64 cs = xs at *
  go_enter Try.func35, Try.ntmps35
  go_wp2_with (first
    | (refine wpList_load_mid rfl 23 (.tmp 3) rfl w.heap.size 0 rfl xs _ hr Try.underlying23 rfl (info_blkn Hl.out) ?_)
    | fail)
  go_loopg [10] 64 (fun gk i wr => ∃ k : Nat, gk = 64 - k ∧ k ≤ 64 ∧ i = .int .i64 (k : Int) ∧ Hid (inB lo hi (cs.take k) = true) ∧ Below w.heap.size w wr)
  case atStart => exact ⟨0, rfl, by omega, rfl, by simp [inB, Hid], hb0⟩
  case round =>
    clear hr hb0
    obtain ⟨k, rfl, hk, rfl, HI, hb⟩ := hrel
    by_cases hlt : k < 64
    · have hltz : (k : Int) < 64 := by omega
      obtain ⟨x, hx⟩ := some_at (xs := cs) (j := k) (by omega)
      have hxs := Hat.out _ _ hx
      by_cases h1 : lo ≤ x ∧ x ≤ hi
      · have h1a := h1.1
        have h1b := h1.2
        have HI2 := veil (inB_take hx HI.out h1.1 h1.2)
        clear HI hx
        go_wp2_with (first
          | (refine wpList_index_arr rfl 23 (.tmp 9) (.tmp 10) rfl 64 3 .i64 Try.underlying23 Try.underlying3 (by kernel_rfl) xs rfl .i64 k rfl (.int .i64 x) hlt hxs ?_)
          | fail)
        go_roundg (64 - (k + 1))
        case rel => exact ⟨k + 1, rfl, by omega, by go_num, HI2, hb⟩
        case measure => omega
      · have h2 := inB_not hx h1
        rw [← HE.out] at h2
        subst h2
        clear HI hx
        go_wp2_with (first
          | (refine wpList_index_arr rfl 23 (.tmp 9) (.tmp 10) rfl 64 3 .i64 Try.underlying23 Try.underlying3 (by kernel_rfl) xs rfl .i64 k rfl (.int .i64 x) hlt hxs ?_)
          | fail)
        all_goals first
          | (exfalso; omega)
          | (go_ret; exact ⟨rfl, hb⟩)
    · obtain rfl : k = 64 := by omega
      have h2 := inB_all hc HI.out
      rw [← HE.out] at h2
      subst h2
      go_wp2
      go_ret
      exact ⟨rfl, hb⟩
set_option maxHeartbeats 1000000 in
set_option maxRecDepth 100000 in
theorem qcheck_any (cs : List Int) (w : World) (hc : cs.length = 64) :
    Calls Try.prog 20 #[blkV cs] w fun e w' => e = .returned (.int .i64 (badB 1 255 cs)) ∧ Below w.heap.size w w' := by
  have hb0 := below1 w (.cells (ints .i64 cs).toArray 23)
  have hr := range_new w (ints .i64 cs) 23
  have Hl : Hid ((ints .i64 cs).length = 64) := by show _ = _; rw [ints_length, hc]
  have HC := veil (fun W => within_any cs 1 255 W hc)
  unfold blkV at *
  generalize ints .i64 cs = xs at *
  go_enter Try.func20, Try.ntmps20
  go_wp2_with (first
    | (refine wpList_load_mid rfl 23 (.tmp 1) rfl w.heap.size 0 rfl xs _ hr Try.underlying23 rfl (info_blkn Hl.out) ?_)
    | fail)
  refine (HC.out _).mono ?_
  rintro e w1 ⟨rfl, hb1⟩
  go_wp2
  go_ret
  exact ⟨rfl, hb0.trans (hb1.mono (by simp))⟩
end Go.Proofs.Ytmdjhbkpekepgaa

/- The reference's clamp and Round: their contracts. -/
namespace Go.Proofs.Ytmdjhbkpekepgaa
open Go.RowKit
set_option linter.unusedVariables false
set_option linter.unusedSimpArgs false
set_option maxRecDepth 100000

end Go.Proofs.Ytmdjhbkpekepgaa
