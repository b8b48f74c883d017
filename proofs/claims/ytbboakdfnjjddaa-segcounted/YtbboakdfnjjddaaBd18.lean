/- Texts shared by the claims of this seat, in one. -/
import Derived.Test.YtbboakdfnjjddaaBd16
import Derived.Test.YtbboakdfnjjddaaBd6
import Derived.Test.YtbboakdfnjjddaaBd17
import Derived.Test.YtbboakdfnjjddaaBd5
import Derived.Deep.DeepCutAuto
import Derived.Test.YtbboakdfnjjddaaBd8
import Derived.Test.YtbboakdfnjjddaaRows
import Derived.ProofKit
import Derived.OpenShut
import Derived.ChangeSame
import Derived.Deep.Slices
import Derived.SizedLaws
import Derived.Test.YtbboakdfnjjddaaBd1
import Derived.ShutString
import Derived.ChangeOld
import Derived.JoinedCond
import Derived.Deep.SlicePairs
import Derived.Deep.Fields
import Derived.Test.YtbboakdfnjjddaaBd3
import Derived.Lib.SmallJoins
import Derived.Test.YtbboakdfnjjddaaBd14
/- The reference's SegEncode: its contract. -/
namespace Go.Proofs.Ytbboakdfnjjddaa
open Go.RowKit
set_option linter.unusedVariables false
set_option linter.unusedSimpArgs false
set_option maxRecDepth 100000

theorem tokBits_len {ws : List (Int × Nat × Nat)} (hpf : PF ws) {t : Int × Int × Int} (hg : goodT t) : (tokBits ws t).length ≤ 28 := by
  unfold tokBits symBits
  rw [List.length_append, bitsN_length, bitsN_length]
  have h1 := (goodT_fit hg).1
  have h2 : (((symF ws t.1).getD (0, 0)).1).toNat ≤ 16 := by
    cases hq : symF ws t.1 with
    | none => simp
    | some p => obtain ⟨p1, p2⟩ := p; exact sym_short hpf hq
  omega
theorem segBits_len {fw rw_ : List (Int × Nat × Nat)} (h1 : PF fw) (h2 : PF rw_) : ∀ (l : List (Bool × Int × Int × Int)), (∀ x ∈ l, goodT x.2) → (segBits fw rw_ l).length ≤ 28 * l.length
  | [], _ => by simp [segBits]
  | x :: l, h => by
    have ih := segBits_len h1 h2 l fun y hy => h y (by simp [hy])
    have hx := h x (by simp)
    have h3 : (tokBits (wsOf fw rw_ x.1) x.2).length ≤ 28 := by
      unfold wsOf; split
      · exact tokBits_len h1 hx
      · exact tokBits_len h2 hx
    have e : segBits fw rw_ (x :: l) = tokBits (wsOf fw rw_ x.1) x.2 ++ segBits fw rw_ l := by simp [segBits]
    rw [e, List.length_append, List.length_cons]; omega
theorem flag_good : ∀ {l : List (Int × Int × Int)}, (∀ t ∈ l, goodT t) → ∀ x ∈ flagT l, goodT x.2
  | [], _, x, hx => by simp [flagT] at hx
  | t :: l, h, x, hx => by
    rcases List.mem_cons.1 hx with rfl | hx
    · exact h t (by simp)
    · obtain ⟨y, hy, rfl⟩ := List.mem_map.1 hx
      exact h y (by simp [hy])
theorem toksB_good : ∀ (L : List (List Int)) (b : Int), (∀ r ∈ L, r.length = 64) → (∀ r ∈ L, inB (-2047) 2047 r = true) → (-2047 ≤ b ∧ b ≤ 2047) → ∀ x ∈ toksB b L, goodT x.2
  | [], b, _, _, _, x, hx => by simp [toksB] at hx
  | r :: L, b, hl, hin, hb, x, hx => by
    have h1 := hl r (by simp)
    have h2 := hin r (by simp)
    rw [toksB] at hx
    rcases List.mem_append.1 hx with hx | hx
    · exact flag_good (toks_good hb (toL_in h1 h2)) x hx
    · refine toksB_good L _ (fun y hy => hl y (by simp [hy])) (fun y hy => hin y (by simp [hy])) ?_ x hx
      match r, h1, h2 with
      | z :: r, _, h2 => exact inB_mem.1 h2 z (by simp)
theorem eTs_one' {cs syms cs2 syms2 : List Int} (h : checkErr cs syms ≠ 0) : eTs cs syms cs2 syms2 = checkErr cs syms := if_neg h
theorem eTs_two' {cs syms cs2 syms2 : List Int} (h : checkErr cs syms = 0) : eTs cs syms cs2 syms2 = checkErr cs2 syms2 := if_pos h
theorem wpList_store_newN {P : Program} {ops : Array Oper} {rest : List Oper} {o : Oper} {a : Act} {Q : Exit → Act → World → Prop} (w0 : World) (n : Nat) (hn : w0.heap.size = n) (hgd : o.guard = none) (t : TypeId) (x y : Operand) (ho : o.op = .store t x y) (c : Array Value) (c' : List Value)
    (hx : a.eval x = .pointer (some ⟨n, 0, none⟩)) (hy : a.eval y = .agg c'.toArray) (hi : (P.info? t).map (·.size) = some c'.length) (hsz : c.size = c'.length) (h1 : ∀ u ∈ c', u.oneCell' = true)
    (h : wpList P ops Q rest (a.put o.dst undef) (w0.alloc (.cells c'.toArray t))) : wpList P ops Q (o :: rest) a (w0.alloc (.cells c t)) := by
  subst hn
  exact wpList_store_new w0 hgd t x y ho c c' hx hy hi hsz h1 h
theorem toksB_more {L : List (List Int)} {x : Bool × Int × Int × Int} (k : Nat) (h : x ∈ toksB 0 (L.take k)) : ∀ d, x ∈ toksB 0 (L.take (k + d))
  | 0 => h
  | d + 1 => by
    have ih := toksB_more k h d
    cases hq : L[k + d]? with
    | none =>
      have h2 := List.getElem?_eq_none_iff.1 hq
      rw [List.take_of_length_le h2] at ih
      rw [List.take_of_length_le (by omega)]; exact ih
    | some r =>
      have h3 := toksB_next hq
      rw [show k + (d + 1) = k + d + 1 from rfl, h3]
      exact List.mem_append.2 (.inl ih)
theorem toksB_all {L : List (List Int)} {x : Bool × Int × Int × Int} {k : Nat} (h : x ∈ toksB 0 (L.take k)) : x ∈ toksB 0 L := by
  have := toksB_more k h L.length
  rw [List.take_of_length_le (by omega)] at this; exact this
set_option maxRecDepth 100000 in
set_option maxHeartbeats 8000000 in
theorem refSegEncode_any (cs syms : List Int) (A : Option Addr) (c : Nat) (cs2 syms2 : List Int) (A2 : Option Addr) (c2 G : Nat) (L : List (List Int)) (A3 : Option Addr) (c3 : Nat) (w : World)
    (hcs : cs.length = 16) (hn : syms.length ≤ maxLen) (hcap : syms.length ≤ c) (hb : ∀ x ∈ cs, -9223372036854775808 ≤ x ∧ x ≤ 9223372036854775807) (hs : Seen w G A (ints .i64 syms))
    (hcs2 : cs2.length = 16) (hn2 : syms2.length ≤ maxLen) (hcap2 : syms2.length ≤ c2) (hb2 : ∀ x ∈ cs2, -9223372036854775808 ≤ x ∧ x ≤ 9223372036854775807) (hs2 : Seen w G A2 (ints .i64 syms2))
    (hl : ∀ r ∈ L, r.length = 64) (hm : L.length ≤ maxLen) (hs3 : Seen w G A3 (rowsC L)) (hG : G ≤ w.heap.size) :
    Calls Try.prog 14 #[tabsV cs A syms.length c cs2 A2 syms2.length c2, .slice A3 L.length c3] w fun e w' => ∃ v out, e = .returned (.tuple #[v, .int .i64 (eEnc cs syms cs2 syms2 L)]) ∧ Owns w.heap.size [byteRow v out] w' ∧ SegOut cs syms cs2 syms2 L out ∧ Below w.heap.size w w' := by
  have h17 : (tabCells cs A syms.length c).length = 17 := tabCells_length hcs
  have h17b : (tabCells cs2 A2 syms2.length c2).length = 17 := tabCells_length hcs2
  have h34 : (tabsCells cs A syms.length c cs2 A2 syms2.length c2).length = 34 := by unfold tabsCells; rw [List.length_append, h17, h17b]
  have HCk := veil (fun W h1 h2 hG => tablesCheck_any cs syms A c cs2 syms2 A2 c2 G W hcs hn hcap hb h1 hcs2 hn2 hcap2 hb2 h2 hG)
  have HBk := veil (fun W h hG => blocksCheck_any L A3 c3 G W hl hm h hG)
  have HTo := veil (fun b cs W h => refTokens_any b cs W h)
  have HWo := veil (fun (l : List (Nat × Nat)) (hf : Fine cs syms l) x W h hG => wordOf_any cs syms l A c G x W hcs hf h hG)
  have HWo2 := veil (fun (l : List (Nat × Nat)) (hf : Fine cs2 syms2 l) x W h hG => wordOf_any cs2 syms2 l A2 c2 G x W hcs2 hf h hG)
  unfold blkV at HTo
  have hb0 := below1 w (.cells (tabsCells cs A syms.length c cs2 A2 syms2.length c2).toArray 36)
  have hz0 : (w.alloc (.cells (tabsCells cs A syms.length c cs2 A2 syms2.length c2).toArray 36)).heap.size = w.heap.size + 1 := by simp
  have hr := range_new w (tabsCells cs A syms.length c cs2 A2 syms2.length c2) 36
  have hr1 := range_left hr
  have hr2 := range_right hr
  rw [h17] at hr2
  have Hcs := veil hcs
  have Hcs2 := veil hcs2
  obtain ⟨E, hE⟩ : ∃ E, E = eEnc cs syms cs2 syms2 L := ⟨_, rfl⟩
  rw [← hE]
  have HSo : Hid (E ≠ 0 → SegOut cs syms cs2 syms2 L []) := fun h => ⟨fun _ => rfl, fun h2 => absurd h2 (by rw [← hE]; exact h)⟩
  have HE := veil hE
  have H17 := veil h17
  have H17b := veil h17b
  have H34 := veil h34
  have HxsO := veil (tabCells_one (cs := cs) (A := A) (n := syms.length) (c := c))
  have HysO := veil (tabCells_one (cs := cs2) (A := A2) (n := syms2.length) (c := c2))
  clear h17 h17b h34 hcs hcs2 hb hb2 hE
  unfold tabsV at HCk ⊢
  unfold tabV at HWo HWo2
  generalize tabsCells cs A syms.length c cs2 A2 syms2.length c2 = zs at *
  generalize tabCells cs A syms.length c = xs at *
  generalize tabCells cs2 A2 syms2.length c2 = ys at *
  go_enter Try.func14, Try.ntmps14
  go_wp2_with (first
    | (refine wpList_load_mid rfl 36 (.tmp 2) rfl w.heap.size 0 rfl zs _ hr Try.underlying36 rfl (by rw [H34.out]; kernel_rfl) ?_)
    | fail)
  refine (HCk.out _ (hs.below hb0 hG) (hs2.below hb0 hG) (by rw [hz0]; omega)).mono ?_
  rintro e w1 ⟨rfl, hb1⟩
  have hr1a := range_below hr1 hb1 (by rw [hz0]; omega)
  have hr2a := range_below hr2 hb1 (by rw [hz0]; omega)
  have hbw := hb0.trans (hb1.mono (by rw [hz0]; omega))
  have hz1 := hb1.size
  rw [hz0] at hz1
  clear hr hr1 hr2 hb0 HCk hb1
  by_cases h0 : eTs cs syms cs2 syms2 = 0
  · rw [h0]
    have h0a : checkErr cs syms = 0 := by
      refine Classical.byContradiction fun h => ?_
      rw [eTs_one' h] at h0; exact h h0
    have h0b : checkErr cs2 syms2 = 0 := by rw [eTs_two' h0a] at h0; exact h0
    have H0 := veil h0a; have H0b := veil h0b
    clear h0 h0a h0b
    go_wp2_with fail
    refine (HBk.out _ (hs3.below hbw hG) (by omega)).mono ?_
    rintro e w2 ⟨rfl, hb2⟩
    have hr1b := range_below hr1a hb2 (by omega)
    have hr2b := range_below hr2a hb2 (by omega)
    have hbw2 := hbw.trans (hb2.mono hbw.size)
    have hz2 := hb2.size
    clear hr1a hr2a hbw hb2 HBk
    by_cases hL : eL L = 0
    · rw [hL]
      obtain ⟨hl400, hin⟩ := eL_zero hL
      obtain ⟨l1, hf1, how1, hll1⟩ := fine_of H0.out
      obtain ⟨l2, hf2, how2, hll2⟩ := fine_of H0b.out
      have hpf1 := hf1.pf Hcs.out
      have hpf2 := hf2.pf Hcs2.out
      have hW1 := HWo.out l1 hf1
      have hW2 := HWo2.out l2 hf2
      rw [← how1] at hW1 hpf1
      rw [← how2] at hW2 hpf2
      obtain ⟨fw, hfw⟩ : ∃ fw, fw = outWords cs syms := ⟨_, rfl⟩
      obtain ⟨rw_, hrw⟩ : ∃ rw_, rw_ = outWords cs2 syms2 := ⟨_, rfl⟩
      rw [← hfw] at hW1 hpf1
      rw [← hrw] at hW2 hpf2
      have HW1 := veil hW1; have HW2 := veil hW2; have Hpf1 := veil hpf1; have Hpf2 := veil hpf2
      have hEo : Hid (E = if AllW fw rw_ (toksB 0 L) then 0 else 5) := by show _ = _; have := HE.out.trans (eEnc_end H0.out H0b.out hL); rw [hfw, hrw]; exact this
      have hSo : Hid (∀ raw, E = 0 → Bytes raw → (∃ p, p < 8 ∧ unpack raw = segBits fw rw_ (toksB 0 L) ++ List.replicate p true) → SegOut cs syms cs2 syms2 L (stuffB raw)) := fun raw h0 h1 h2 => ⟨fun h => absurd (HE.out.symm.trans h0) h, fun _ => ⟨raw, rfl, h1, by rw [← hfw, ← hrw]; exact h2⟩⟩
      have hbb := bld_new w2
      have hb3 := below1 w2 (.cells #[.pointer none, .slice none 0 0] 77)
      have hr1c := range_below hr1b hb3 (by omega)
      have hr2c := range_below hr2b hb3 (by omega)
      have hbw3 := hbw2.trans (hb3.mono hbw2.size)
      have hz3 : (w2.alloc (.cells #[.pointer none, .slice none 0 0] 77)).heap.size = w2.heap.size + 1 := by simp
      have hs3a := hs3.below hbw3 hG
      have hsA := hs.below hbw3 hG
      have hsB := hs2.below hbw3 hG
      obtain ⟨w3, hw3⟩ : ∃ w3, w3 = w2.alloc (.cells #[.pointer none, .slice none 0 0] 77) := ⟨_, rfl⟩
      obtain ⟨bd, hbd⟩ : ∃ bd, bd = w2.heap.size := ⟨_, rfl⟩
      rw [← hw3] at hbb hr1c hr2c hbw3 hz3 hs3a hsA hsB
      rw [← hbd] at hbb hz3
      have Hbb := veil hbb; have Hr1 := veil hr1c; have Hr2 := veil hr2c; have Hbw3 := veil hbw3; have Hs3 := veil hs3a; have HsA := veil hsA; have HsB := veil hsB
      have hlo : w.heap.size < bd := by omega
      have Hw3 := veil hw3
      have Hbd := veil hbd
      clear hbb hr1c hr2c hbw3 hs3a hsA hsB hr1b hr2b hW1 hW2 hpf1 hpf2 hfw hrw how1 how2 hf1 hf2 hll1 hll2 HWo HWo2 hb3 hs hs2 hs3 hL hw3 hbd hbw2 hz1 hz2
      obtain ⟨v0, hx0⟩ := Hbb.out.x
      have HX0 := veil hx0
      have Hl400 := veil hl400
      have Hin := veil hin
      have Hl := veil hl
      clear hx0 Hbb
      have hBr0 : Below bd w3 w3 := Below.refl _ _
      have HBr0 := veil hBr0
      clear hBr0 hin hl400
      go_wp2_with fail
      rw [← Hw3.out, ← Hbd.out]
      go_loopg [31] L.length (fun gk iv wr => ∃ (k : Nat) (vb : Value), gk = L.length - k ∧ k ≤ L.length ∧ iv = .int .i64 (k : Int) ∧ Hid (AllW fw rw_ (toksB 0 (L.take k))) ∧ Hid (BldX bd bd vb (segBits fw rw_ (toksB 0 (L.take k))) wr) ∧ Hid (Below bd w3 wr))
      case atStart => exact ⟨0, v0, rfl, Nat.zero_le _, rfl, veil (by intro x hx; simp [toksB] at hx), HX0, HBr0⟩
      case round =>
        clear HX0 HBr0
        obtain ⟨k, vb, rfl, hk, rfl, HAl, HX, HBr⟩ := hrel
        obtain ⟨W1, hW1⟩ : ∃ W1, W1 = wr := ⟨_, rfl⟩
        subst hW1
        have hzr := (HX.out.lt (.inl rfl)).2
        by_cases hlt : k < L.length
        · have hltz : (k : Int) < (L.length : Int) := by omega
          have hL4 := Hl400.out
          have hsL := Hs3.out.below HBr.out (by omega)
          obtain ⟨g, o, r, rfl, hg, hr, hrl, hrange⟩ := hsL.row hl (by omega) hlt
          have hbin := ahead_in (k := k) hl (fun r hr => Hin.out r (List.mem_of_mem_take hr)) hk
          have Hl2 : Hid ((ints .i64 r).length = 64) := by show _ = _; rw [ints_length, hrl]
          have hone := ints_one (k := .i64) (l := r)
          have hr2 := range_new W1 (ints .i64 r) 47
          have hb2 := below1 W1 (.cells (ints .i64 r).toArray 47)
          have HT2 := veil (HTo.out (ahead L k) r (W1.alloc (.cells (ints .i64 r).toArray 47)) hrl)
          have hz2 : (W1.alloc (.cells (ints .i64 r).toArray 47)).heap.size = W1.heap.size + 1 := by simp
          have hS2 : Seen (W1.alloc (.cells (ints .i64 r).toArray 47)) G (some ⟨g, o, none⟩) (rowsC L) := hsL.below hb2 (by omega)
          have Hr := veil hr
          have Hbin := veil hbin
          have Hrl := veil hrl
          have hinr := Hin.out r (List.mem_of_getElem? hr)
          have Hinr := veil hinr
          obtain ⟨zs2, hys⟩ : ∃ ys, ys = ints .i64 r := ⟨_, rfl⟩
          rw [← hys] at hrange Hl2 hone hr2 hb2 HT2 hz2 hS2
          have HS2 := veil hS2
          have Hhb2 := veil hb2
          have Hsl := veil hsL
          clear hr hrl hbin hys hinr hS2 hb2 hsL Hsl
          go_upto_if 37 with (first
            | (refine wpList_load_mid rfl 47 (.tmp 34) rfl g (o + k * 64) rfl zs2 _ hrange Try.underlying47 rfl (info_blkn Hl2.out) ?_)
            | (refine wpList_store_new W1 rfl 47 (.tmp 10) (.tmp 35) rfl zeroB.toArray zs2 rfl rfl (info_blkn Hl2.out) (by rw [Hl2.out]; rfl) hone ?_)
            | fail)
          obtain ⟨W2, hW2⟩ : ∃ W2, W2 = W1.alloc (.cells zs2.toArray 47) := ⟨_, rfl⟩
          rw [← hW2] at hr2 hz2 HT2 HS2 Hhb2 ⊢
          clear hrange hW2
          go_cut [11] (fun v11 wx => v11 = .int .i64 (ahead L k) ∧ wx = W2)
          case first =>
            by_cases hk0 : k = 0
            · subst hk0
              go_wp2_with fail
              go_meet
              case rel => exact ⟨rfl, rfl⟩
            · obtain ⟨j, rfl⟩ : ∃ j, k = j + 1 := ⟨k - 1, by omega⟩
              obtain ⟨g9, o9, r9, hA9, hg9, hr9, hrl9, hrange9⟩ := HS2.out.row hl (by omega) (k := j) (by omega)
              simp only [Option.some.injEq, Addr.mk.injEq, and_true] at hA9
              obtain ⟨rfl, rfl⟩ := hA9
              have hc9 := hrange9 0 (.int .i64 (ahead L (j + 1))) (by
                rw [ahead_next hr9]
                match r9, hrl9 with
                | z :: r9, _ => rfl)
              rw [Nat.add_zero] at hc9
              have hw9 : IntKind.i64.wrap (((j + 1 : Nat) : Int) - 1) = (j : Int) := by rw [IntKind.wrap_i64]; omega
              have hp9 : (0 : Int) < ((j + 1 : Nat) : Int) := by omega
              obtain ⟨AH, hAH⟩ : ∃ AH, AH = ahead L (j + 1) := ⟨_, rfl⟩
              rw [← hAH] at hc9
              have HAH := veil hAH
              clear hrange9 hr9 hAH
              go_wp2_with fail
              go_meet
              case rel => exact ⟨by rw [HAH.out], rfl⟩
          case rest =>
            obtain ⟨rfl, hwc⟩ := hcut
            have hwc' : wc = W2 := hwc
            subst wc
            go_wp2_with (first
              | (refine wpList_load_mid rfl 47 (.tmp 10) rfl W1.heap.size 0 rfl zs2 _ hr2 Try.underlying47 rfl (info_blkn Hl2.out) ?_)
              | fail)
            refine HT2.out.mono ?_
            rintro e w3' ⟨v, rfl, HO3, hb3⟩
            have hz3' := hb3.size
            rw [hz2] at hz3' HO3
            have hT0 := eT_ok Hbin.out.1 Hbin.out.2 Hinr.out
            rw [oT_ok hT0] at HO3
            rw [hT0]
            obtain ⟨T, hT⟩ : ∃ T, T = toksZ (ahead L k) (toL r) := ⟨_, rfl⟩
            have hgood : ∀ t ∈ T, goodT t := by rw [hT]; exact toks_good Hbin.out (toL_in Hrl.out Hinr.out)
            have hTl : T.length ≤ 64 := by rw [hT]; exact toks_len _ (toL_length _)
            have hacc : toksB 0 (L.take (k + 1)) = toksB 0 (L.take k) ++ flagT T := by rw [toksB_next Hr.out, hT]
            have hlen0 : (toksB 0 (L.take k)).length ≤ 64 * k := by have := toksB_len (L.take k) 0; rw [List.length_take, Nat.min_eq_left hk] at this; exact this
            have hgd0 : ∀ x ∈ toksB 0 (L.take k), goodT x.2 := toksB_good (L.take k) 0 (fun y hy => hl y (List.mem_of_mem_take hy)) (fun y hy => Hin.out y (List.mem_of_mem_take hy)) (by omega)
            rw [← hT] at HO3
            obtain ⟨A5, c5, hv5, _, _, _⟩ := tok_form HO3
            subst v
            have hbW : Below W1.heap.size W1 w3' := Hhb2.out.trans (hb3.mono (by rw [hz2]; omega))
            have hX3 := HX.out.below hbW
            have hBr3 : Below bd w3 w3' := HBr.out.trans (hbW.mono (by omega))
            have hap3 : ∀ q, (Value.slice A5 T.length c5).ownBlock = some q → ¬ bldF bd vb q := fun q hq hf => by
              have h1 := (HO3.head.lt q hq).1
              have h2 := (HX.out.lt hf).2
              omega
            have Hgood := veil hgood; have Hacc := veil hacc; have HO3 := veil HO3; have HX3 := veil hX3; have HBr3 := veil hBr3; have Hlen0 := veil hlen0; have Hap3 := veil hap3; have Hgd0 := veil hgd0
            have HAl3 : Hid (AllW fw rw_ (toksB 0 (L.take k) ++ flagT (T.take 0))) := by show AllW fw rw_ _; rw [List.take_zero]; simpa [flagT] using HAl.out
            have HX30 : Hid (BldX bd bd vb (segBits fw rw_ (toksB 0 (L.take k) ++ flagT (T.take 0))) w3') := by show BldX _ _ _ _ _; rw [List.take_zero]; simpa [flagT] using HX3.out
            obtain ⟨base, hbase⟩ : ∃ base, base = W1.heap.size + 1 := ⟨_, rfl⟩
            rw [← hbase] at HO3
            have Hbase := veil hbase
            clear hT0 hT hgood hacc hlen0 hX3 hBr3 hb3 hr2 HT2 HS2 Hhb2 hap3 hgd0 HX HBr HAl hbW HX3 hbase
            go_wp2_with fail
            go_loopg [52] T.length (fun gk iv wi => ∃ (j : Nat) (vb : Value), gk = T.length - j ∧ j ≤ T.length ∧ iv = .int .i64 (j : Int) ∧ Hid (AllW fw rw_ (toksB 0 (L.take k) ++ flagT (T.take j))) ∧ Hid (BldX bd bd vb (segBits fw rw_ (toksB 0 (L.take k) ++ flagT (T.take j))) wi) ∧ Hid (Owns base [tokRow (.slice A5 T.length c5) T] wi) ∧ Hid (Below bd w3 wi) ∧ Hid (∀ q, (Value.slice A5 T.length c5).ownBlock = some q → ¬ bldF bd vb q))
            case atStart => exact ⟨0, vb, rfl, Nat.zero_le _, rfl, HAl3, HX30, HO3, HBr3, Hap3⟩
            case round =>
              clear HAl3 HX30 HO3 HBr3 Hap3
              obtain ⟨j, vb, rfl, hj, rfl, HAl, HX, HO, HBr, Hap⟩ := hrel
              by_cases hltj : j < T.length
              · have hltjz : (j : Int) < (T.length : Int) := by omega
                obtain ⟨A6, c6, hv6, hs6, hc6, hm6⟩ := tok_form HO.out
                obtain ⟨rfl, rfl⟩ : A5 = A6 ∧ c5 = c6 := by simpa using hv6
                obtain ⟨g6, o6, t0, t1, t2, rfl, hg6, htj, d0, d1, d2⟩ := hs6.tok hltj
                have hgt := Hgood.out _ (List.mem_of_getElem? htj)
                have hgf := goodT_fit hgt
                simp only at hgf
                obtain ⟨X, rfl⟩ : ∃ X : Nat, t1 = (X : Int) := ⟨t1.toNat, by omega⟩
                obtain ⟨Y, rfl⟩ : ∃ Y : Nat, t2 = (Y : Int) := ⟨t2.toNat, by omega⟩
                have hX12 : X ≤ 12 := by omega
                have hYb : Y < 9223372036854775808 := by
                  have h1 := hgf.2.2
                  rw [Int.toNat_natCast] at h1
                  have h2 : pw X ≤ pw 12 := by unfold pw; exact_mod_cast Nat.pow_le_pow_right (by decide) hX12
                  have h3 : pw 12 = 4096 := by decide
                  omega
                have hlenk := Hlen0.out
                have hfl : (toksB 0 (L.take k) ++ flagT (T.take j)).length < 25600 := by
                  rw [List.length_append, flagT_length, List.length_take]; omega
                have hgda : ∀ x ∈ toksB 0 (L.take k) ++ flagT (T.take j), goodT x.2 := fun x hx => by
                  rcases List.mem_append.1 hx with hx | hx
                  · exact Hgd0.out x hx
                  · exact flag_good (fun t ht => Hgood.out t (List.mem_of_mem_take ht)) x hx
                have hbl := segBits_len Hpf1.out Hpf2.out _ hgda
                have hsn : (toksB 0 (L.take k) ++ flagT (T.take j)) ++ [(decide (j = 0), t0, (X : Int), (Y : Int))] = toksB 0 (L.take k) ++ flagT (T.take (j + 1)) := by
                  rw [List.append_assoc]
                  congr 1
                  have h9 := flagT_at htj
                  rw [← flagT_take, ← flagT_take, take_snoc h9]
                have hin9 : (decide (j = 0), t0, (X : Int), (Y : Int)) ∈ toksB 0 L := by
                  refine toksB_all (k := k + 1) ?_
                  rw [Hacc.out]
                  exact List.mem_append.2 (.inr (List.mem_of_getElem? (flagT_at htj)))
                have hb7 := below1 wr (.cells #[.int .i64 t0, .int .i64 (X : Int), .int .i64 (Y : Int)] 56)
                have hb8 := below1 (wr.alloc (.cells #[.int .i64 t0, .int .i64 (X : Int), .int .i64 (Y : Int)] 56)) (.cells ys.toArray 34)
                have hzA : (wr.alloc (.cells #[.int .i64 t0, .int .i64 (X : Int), .int .i64 (Y : Int)] 56)).heap.size = wr.heap.size + 1 := by simp
                have hzi := (HX.out.lt (.inl rfl)).2
                have hrA := range_below Hr2.out (HBr.out.trans (hb7.mono (by omega))) (by omega)
                have hrB := range_below Hr1.out ((HBr.out.trans (hb7.mono (by omega))).trans (hb8.mono (by omega))) (by omega)
                rw [Nat.zero_add] at hrA
                have hTB := (Blk.new wr [.int .i64 t0, .int .i64 (X : Int), .int .i64 (Y : Int)] 56).below hb8 (by omega)
                have hNB := Blk.new (wr.alloc (.cells #[.int .i64 t0, .int .i64 (X : Int), .int .i64 (Y : Int)] 56)) ys 34
                rw [hzA] at hNB
                obtain ⟨wA, hwA⟩ : ∃ wA, wA = wr.alloc (.cells #[.int .i64 t0, .int .i64 (X : Int), .int .i64 (Y : Int)] 56) := ⟨_, rfl⟩
                have hb78 : Below wr.heap.size wr (wA.alloc (.cells ys.toArray 34)) := by rw [hwA]; exact hb7.trans (hb8.mono (by omega))
                have HTB := veil hTB; have HNB := veil hNB; have Hb78 := veil hb78; have HrA := veil hrA; have HrB := veil hrB
                have Hhwa := veil hwA
                have Hsn := veil hsn; have Hin9 := veil hin9; have Hbl := veil hbl; have Hgt := veil hgt
                clear hTB hNB hb78 hrA hrB hb7 hb8 hwA hs6 hv6 htj hgf hsn hin9 hbl hgda hgt
                have hxs1 : ∀ u ∈ xs, u.oneCell' = true := HxsO.out
                have hys1 : ∀ u ∈ ys, u.oneCell' = true := HysO.out
                go_upto_if 60 with (first
                  | (refine wpList_load_mid rfl 34 (.tmp 57) rfl w.heap.size 17 rfl ys _ HrA.out Try.underlying34 rfl (by rw [H17b.out]; exact info_tab) ?_)
                  | (refine wpList_store_newN (wr.alloc (.cells #[.int .i64 t0, .int .i64 (X : Int), .int .i64 (Y : Int)] 56)) (wr.heap.size + 1) hzA rfl 34 (.tmp 16) (.tmp 58) rfl _ ys rfl rfl (by rw [H17b.out]; exact info_tab) (by rw [H17b.out]; rfl) hys1 ?_)
                  | fail)
                rw [← Hhwa.out]
                have hz9 : (wA.alloc (.cells ys.toArray 34)).heap.size = wr.heap.size + 2 := by rw [Hhwa.out]; simp
                obtain ⟨wB, hwB⟩ : ∃ wB, wB = wA.alloc (.cells ys.toArray 34) := ⟨_, rfl⟩
                rw [← Hhwa.out] at HTB HNB HrB
                rw [← hwB] at hz9 HTB HNB HrB Hb78 ⊢
                clear hwB
                have hSA := fun (W : World) (hW : Below wr.heap.size wr W) => HsA.out.below (HBr.out.trans (hW.mono (by omega))) (by omega)
                have hSB := fun (W : World) (hW : Below wr.heap.size wr W) => HsB.out.below (HBr.out.trans (hW.mono (by omega))) (by omega)
                obtain ⟨sel, hs1, hs0, hs17, hsW⟩ : ∃ sel : List Value, (j = 0 → sel = xs) ∧ (j ≠ 0 → sel = ys) ∧ sel.length = 17 ∧ ∀ W, Below wr.heap.size wr W → Calls Try.prog 34 #[.agg sel.toArray, .int .i64 t0] W fun e w' =>
                    e = .returned (.tuple #[.string (txt (symBits (wsOf fw rw_ (decide (j = 0))) t0)), .bool (symF (wsOf fw rw_ (decide (j = 0))) t0).isSome]) ∧ Below W.heap.size W w' := by
                  by_cases h0 : j = 0
                  · refine ⟨xs, fun _ => rfl, fun h => absurd h0 h, H17.out, fun W hW => ?_⟩
                    have h2 := HW1.out t0 W (hSA W hW) (by have := hW.size; omega)
                    rw [decide_eq_true h0]; exact h2
                  · refine ⟨ys, fun h => absurd h h0, fun _ => rfl, H17b.out, fun W hW => ?_⟩
                    have h2 := HW2.out t0 W (hSB W hW) (by have := hW.size; omega)
                    rw [decide_eq_false h0]; exact h2
                have Hs1 := veil hs1; have Hs0 := veil hs0; have Hs17 := veil hs17; have HsW := veil hsW
                clear hs1 hs0 hs17 hsW hSA hSB
                go_cut [16] (fun v16 wx => v16 = .pointer (some ⟨wr.heap.size + 1, 0, none⟩) ∧ Hid (Blk wx (wr.heap.size + 1) sel 34) ∧ Hid (wB.grownBy wx (some (wr.heap.size + 1))))
                case first =>
                  by_cases hj0 : j = 0
                  · have hjb : ((j : Int) == 0) = true := by simp [hj0]
                    have hsx := Hs1.out hj0
                    have Hsx := veil hsx
                    clear hj0 hsx
                    go_wp2_with (first
                      | (refine wpList_load_mid rfl 34 (.tmp 61) rfl w.heap.size 0 rfl xs _ HrB.out Try.underlying34 rfl (by rw [H17.out]; exact info_tab) ?_)
                      | (refine wpList_store_blk _ rfl 34 (.tmp 16) (.tmp 62) rfl (wr.heap.size + 1) ys xs 34 HNB.out rfl rfl (by rw [H17.out]; exact info_tab) (by rw [H17.out, H17b.out]) hxs1 ?_; intro w5 hB5 hg5)
                      | fail)
                    go_meet
                    case rel => exact ⟨rfl, veil (by rw [Hsx.out]; exact hB5), veil hg5⟩
                  · have hjb : ((j : Int) == 0) = false := by simp [hj0]
                    have hsx := Hs0.out hj0
                    have Hsx := veil hsx
                    clear hj0 hsx
                    go_wp2_with fail
                    go_meet
                    case rel => exact ⟨rfl, veil (by rw [Hsx.out]; exact HNB.out), veil (World.grownBy.refl _ _)⟩
                case rest =>
                  obtain ⟨rfl, HBc, Hgc⟩ := hcut
                  have hBc := HBc.out
                  have hgc := Hgc.out
                  have hbc : Below wr.heap.size wr wc := Hb78.out.grown hgc (by have := Hb78.out.size; omega) (fun q hq => by injection hq with hq; omega)
                  have hzc : wr.heap.size + 2 ≤ wc.heap.size := by have := hgc.size; omega
                  have hTc := HTB.out.kept hgc (by intro h; injection h with h; omega)
                  have q0 := hTc.cell (i := 0) (v := .int .i64 t0) rfl
                  have q1 := hTc.cell (i := 1) (v := .int .i64 (X : Int)) rfl
                  have q2 := hTc.cell (i := 2) (v := .int .i64 (Y : Int)) rfl
                  have hXc := HX.out.below hbc
                  have hOc := HO.out.below hbc
                  have hBrc : Below bd w3 wc := HBr.out.trans (hbc.mono (by omega))
                  have hWc := HsW.out wc hbc
                  have HWc := veil hWc; have HXc := veil hXc; have HOc := veil hOc; have HBrc := veil hBrc; have HTc := veil hTc
                  have hlt5 : ∀ q, (Value.slice (some ⟨g6, o6, none⟩) T.length c5).ownBlock = some q → q < wc.heap.size := fun q hq => (hOc.head.lt q hq).2
                  have Hlt5 := veil hlt5
                  have hrc := hBc.range
                  obtain ⟨ws, hws⟩ : ∃ ws, ws = wsOf fw rw_ (decide (j = 0)) := ⟨_, rfl⟩
                  rw [← hws] at HWc
                  have hpf : PF ws := by rw [hws]; unfold wsOf; split; exact Hpf1.out; exact Hpf2.out
                  have hsb16 : (symBits ws t0).length ≤ 28 := by
                    have h9 := tokBits_len hpf Hgt.out
                    unfold tokBits at h9
                    rw [List.length_append] at h9; simp only at h9; omega
                  have Hws := veil hws
                  clear hTc hXc hOc hBrc hWc hbc hgc hws hpf hlt5 HBc Hgc HX HO HTB HNB HrB HrA Hs1 Hs0
                  cases hq : symF ws t0 with
                  | none =>
                    have hE5 : E = 5 := by
                      rw [hEo.out, if_neg]
                      intro h
                      have h2 := h _ Hin9.out
                      simp only at h2
                      rw [← Hws.out, hq] at h2; cases h2
                    have hS := HSo.out (by rw [hE5]; decide)
                    have HS := veil hS
                    have HE5 := veil hE5
                    rw [hq] at HWc
                    clear hE5 hS hq
                    go_wp2_with (first
                      | (refine wpList_load_mid rfl 34 (.tmp 16) rfl (wr.heap.size + 1) 0 rfl sel _ hrc Try.underlying34 rfl (by rw [Hs17.out]; exact info_tab) ?_)
                      | fail)
                    refine HWc.out.mono ?_
                    rintro e w6 ⟨rfl, hb6⟩
                    simp only [Option.isSome_none]
                    have hfin : Below w.heap.size w w6 := (Hbw3.out.trans (HBrc.out.mono (by omega))).trans (hb6.mono (by omega))
                    have Hfin := veil hfin
                    clear hfin hb6 q0 q1 q2 hrc hBc
                    go_wp2_with fail
                    go_ret2
                    exact ⟨_, [], ret_two rfl (by rw [HE5.out]; rfl), (Owns.nil Hfin.out.size).fresh _ _, HS.out, Hfin.out⟩
                  | some p =>
                    rw [hq] at HWc
                    have Hq := veil hq
                    clear hq
                    obtain ⟨sb, hsb⟩ : ∃ sb, sb = symBits ws t0 := ⟨_, rfl⟩
                    rw [← hsb] at HWc hsb16
                    have Hsb := veil hsb
                    clear hsb
                    have hadd := txt_append sb (bitsN X Y)
                    have hsz1 : (txt sb).size = sb.length := txt_size sb
                    have hsz2 : (txt (bitsN X Y)).size = X := by rw [txt_size, bitsN_length]
                    go_wp2_with (first
                      | (refine wpList_load_mid rfl 34 (.tmp 16) rfl (wr.heap.size + 1) 0 rfl sel _ hrc Try.underlying34 rfl (by rw [Hs17.out]; exact info_tab) ?_)
                      | fail)
                    refine HWc.out.mono ?_
                    rintro e w6 ⟨rfl, hb6⟩
                    simp only [Option.isSome_some]
                    have hT6 := HTc.out.below hb6 (by omega)
                    have r0 := hT6.cell (i := 0) (v := .int .i64 t0) rfl
                    have r1 := hT6.cell (i := 1) (v := .int .i64 (X : Int)) rfl
                    have r2 := hT6.cell (i := 2) (v := .int .i64 (Y : Int)) rfl
                    have hX6 := HXc.out.below hb6
                    have hO6 := HOc.out.below hb6
                    have hz6 := hb6.size
                    have hBr6 : Below bd w3 w6 := HBrc.out.trans (hb6.mono (by omega))
                    have HX6 := veil hX6; have HO6 := veil hO6; have HBr6 := veil hBr6
                    clear hX6 hO6 hBr6 hb6 hT6 q0 q1 q2 hrc hBc
                    go_wp2_with (first
                      | (go_at_call 36; refine (binary_any X Y _ (by omega) hYb).mono ?_; rintro e w7 ⟨rfl, rfl⟩)
                      | fail)
                    refine (writeString_x bd bd vb _ (sb ++ bitsN X Y) w6 HX6.out (by rw [List.length_append, bitsN_length]; have := Hbl.out; omega) (by omega)).mono ?_
                    rintro e w8 ⟨rfl, vb8, hX8, hon8, hsub8⟩
                    have hz8 := hon8.size
                    have hO8 : Owns base [tokRow (.slice (some ⟨g6, o6, none⟩) T.length c5) T] w8 := HO6.out.only hon8 (fun r hr q hq => by
                      rw [List.mem_singleton.1 hr] at hq
                      exact Hap.out q hq)
                    have hap8 : ∀ q, (Value.slice (some ⟨g6, o6, none⟩) T.length c5).ownBlock = some q → ¬ bldF bd vb8 q := fun q hq hf => by
                      rcases hsub8 q hf with h | h
                      · exact Hap.out q hq h
                      · have := Hlt5.out q hq; omega
                    have hBr8 : Below bd w3 w8 := HBr6.out.trans ((hon8.below (B := bd) (by omega) (fun q hq => (HX6.out.lt hq).1)).mono (by omega))
                    have hbits : segBits fw rw_ (toksB 0 (L.take k) ++ flagT (T.take j)) ++ (sb ++ bitsN X Y) = segBits fw rw_ (toksB 0 (L.take k) ++ flagT (T.take (j + 1))) := by
                      rw [← Hsn.out, segBits_append fw rw_ (toksB 0 (L.take k) ++ flagT (T.take j)), segBits_one]
                      unfold tokBits
                      simp only
                      rw [← Hws.out, Hsb.out, Int.toNat_natCast, Int.toNat_natCast]
                    rw [hbits] at hX8
                    have hal8 : AllW fw rw_ (toksB 0 (L.take k) ++ flagT (T.take (j + 1))) := by
                      rw [← Hsn.out]
                      exact allW_snoc.2 ⟨HAl.out, by simp only; rw [← Hws.out, Hq.out]; rfl⟩
                    have HX8 := veil hX8; have HO8 := veil hO8; have Hap8 := veil hap8; have HBr8 := veil hBr8; have Hal8 := veil hal8
                    clear hX8 hO8 hap8 hBr8 hal8 hbits hon8 hsub8 hadd hsz1 hsz2 HX6 HO6 HBr6
                    go_wp2_with fail
                    go_roundg (T.length - (j + 1))
                    case rel => exact ⟨j + 1, vb8, rfl, by omega, by go_num, Hal8, HX8, HO8, HBr8, Hap8⟩
                    case measure => omega
              · obtain rfl : j = T.length := by omega
                have h1 := HAl.out
                have h2 := HX.out
                rw [List.take_length, ← Hacc.out] at h1 h2
                have H1 := veil h1; have H2 := veil h2
                clear h1 h2
                go_wp2_with fail
                go_roundg (L.length - (k + 1))
                case rel => exact ⟨k + 1, _, rfl, by omega, by go_num, H1, H2, HBr⟩
                case measure => omega
        · obtain rfl : k = L.length := by omega
          have h1 := HAl.out
          have h2 := HX.out
          rw [List.take_length] at h1 h2
          have hE0 : E = 0 := by rw [hEo.out, if_pos h1]
          have hbl : (segBits fw rw_ (toksB 0 L)).length ≤ 1000000 := by
            have h3 := segBits_len Hpf1.out Hpf2.out (toksB 0 L) (toksB_good L 0 hl Hin.out (by omega))
            have h4 := toksB_len L 0
            have h5 := Hl400.out
            omega
          obtain ⟨bits, hbits⟩ : ∃ bits, bits = segBits fw rw_ (toksB 0 L) := ⟨_, rfl⟩
          rw [← hbits] at h2 hbl
          have hSo2 := fun raw => hSo.out raw hE0
          rw [← hbits] at hSo2
          have HSo2 := veil hSo2
          have HE0 := veil hE0
          have H2 := veil h2
          have hbw1 : Below w.heap.size w W1 := Hbw3.out.trans (HBr.out.mono (by omega))
          have Hbw1 := veil hbw1
          clear h1 h2 hE0 hSo2 hbits hbw1 HAl HX HBr
          go_wp2_with fail
          refine (string_any bd bd _ _ H2.out.bld).mono ?_
          rintro e w5 ⟨rfl, hb5⟩
          have hz5 := hb5.size
          go_wp2_with fail
          refine (bytesOf_any bits _ (by omega)).mono ?_
          rintro e w6 ⟨v6, raw, rfl, hown6, ⟨hby, hun⟩, hb6⟩
          obtain ⟨A6, c6, rfl, hs6, _, _⟩ := own_form' hown6
          have hrl6 : raw.length ≤ 125001 := by
            obtain ⟨p, hp, h9⟩ := hun
            have h8 := congrArg List.length h9
            rw [unpack_length, List.length_append, List.length_replicate] at h8
            omega
          have hst := stuffB_length_le raw
          have hz6 := hb6.size
          have hfin := HSo2.out raw hby hun
          have Hfin := veil hfin
          have hbw6 : Below w.heap.size w w6 := (Hbw1.out.trans (hb5.mono (by omega))).trans (hb6.mono (by omega))
          have Hbw6 := veil hbw6
          clear hown6 hby hun hb6 hb5 hfin hbw6
          go_wp2_with fail
          refine (refStuff_any A6 c6 w6.heap.size raw w6 hs6 (Nat.le_refl _) (by omega)).mono ?_
          rintro e w7 ⟨v7, rfl, HO7, hb7⟩
          go_wp2_with fail
          go_ret2
          exact ⟨_, stuffB raw, ret_two rfl (by rw [HE0.out]; rfl), ⟨by have := hb7.size; omega, fun r hr => own_base (HO7.each r hr) (by omega), HO7.apart⟩, Hfin.out, Hbw6.out.trans (hb7.mono (by omega))⟩
    · have hE5 := HE.out.trans (eEnc_blk H0.out H0b.out hL)
      have hS := HSo.out (by rw [hE5]; exact hL)
      have hne : (eL L != 0) = true := by simpa using hL
      have HS := veil hS
      have HE5 := veil hE5
      obtain ⟨er, her⟩ : ∃ er, er = eL L := ⟨_, rfl⟩
      rw [← her] at hne HE5 ⊢
      clear hL hE5 hS her
      go_wp2_with fail
      go_ret2
      exact ⟨_, [], ret_two rfl (by rw [HE5.out]; rfl), (Owns.nil hbw2.size).fresh _ _, HS.out, hbw2⟩
  · have hE1 : E = eTs cs syms cs2 syms2 := by
      rw [HE.out]
      by_cases h1 : checkErr cs syms = 0
      · rw [eTs_two' h1] at h0 ⊢; exact eEnc_two h1 h0
      · rw [eTs_one' h1]; exact eEnc_one h1
    have hS := HSo.out (by rw [hE1]; exact h0)
    have HS := veil hS
    have HE1 := veil hE1
    have hne : (eTs cs syms cs2 syms2 != 0) = true := by simpa using h0
    obtain ⟨er, her⟩ : ∃ er, er = eTs cs syms cs2 syms2 := ⟨_, rfl⟩
    rw [← her] at hne HE1 ⊢
    clear hE1 hS h0 her
    go_wp2_with fail
    go_ret2
    exact ⟨_, [], ret_two rfl (by rw [HE1.out]; rfl), (Owns.nil hbw.size).fresh _ _, HS.out, hbw⟩
end Go.Proofs.Ytbboakdfnjjddaa

/- From the form's reading of a slice of structs or arrays of integers to the words of Mem. -/
namespace Go.Proofs.Ytbboakdfnjjddaa
open Go.RowKit Go.ChangeShapes Go.WideShapes Go.ChangeAt Go.Deep
set_option linter.unusedVariables false
set_option linter.unusedSimpArgs false
set_option maxRecDepth 100000

section
variable {H : Type} {enc : TypeId × Value → H}
/-- A slice whose elements are n integers each. -/
theorem openRows {W : World} {t e : TypeId} {n : Nat} {a : Option Addr} {len cap : Nat} {d : DataW H} {p : List MemPlace} {sp : Nat → Bool} {hd : Bool}
    (ht : Try.prog.underlying t = some (.slice e)) (hn : Try.prog.cellsOf e = n) (hp : 0 < n)
    (hel : ∀ (fuel : Nat) (cs : List Value) (x : DataW H × List MemPlace), DataW.trod enc Try.prog W 0 sp hd fuel e cs = some x → ∃ is : List Int, cs = ints .i64 is ∧ is.length = n ∧ ∀ c ∈ is, (Lit.int .i64 c).wf = true)
    (h : DataW.Trod enc Try.prog W 0 sp hd t (.slice a len cap) d p) :
    ∃ L : List (List Int), len = L.length ∧ Seen W W.heap.size a (rowsC L) ∧ (∀ r ∈ L, r.length = n ∧ ∀ c ∈ r, (Lit.int .i64 c).wf = true) ∧ L.length ≤ maxLen ∧ cap ≤ maxLen ∧ L.length ≤ cap := by
  obtain ⟨fuel, hf⟩ := h
  rcases open_slice ht hf with ⟨hcs, _⟩ | ⟨x, l, c, m, k, D, Pl, hcs, _, hl, hm, hmm, hx, hi⟩
  · simp [Value.cells] at hcs
    obtain ⟨rfl, rfl, rfl⟩ := hcs
    exact ⟨[], rfl, .inl rfl, by simp, Nat.zero_le _, Nat.zero_le _, Nat.zero_le _⟩
  · simp [Value.cells] at hcs
    obtain ⟨rfl, rfl, rfl⟩ := hcs
    have hlm : len ≤ m := by rw [hmm]; split <;> omega
    have each : ∀ i, i < len → ∃ is : List Int, is.length = n ∧ (∀ c ∈ is, (Lit.int .i64 c).wf = true) ∧ ∀ j u, (ints .i64 is)[j]? = some u → W.cell? (x.add (i * n + j)) = some u := by
      intro i hil
      obtain ⟨cs', h1, h2⟩ := hi i (by omega)
      obtain ⟨is, rfl, h3, h4⟩ := hel _ _ _ h2
      rw [hn] at h1
      obtain ⟨_, hlen, hcell⟩ := World.cells?_some h1
      refine ⟨is, h3, h4, fun j u hu => ?_⟩
      have hj : j < n := by have := (List.getElem?_eq_some_iff.1 hu).1; rw [ints_length] at this; omega
      have h5 := hcell j hj
      rw [add_add] at h5
      rw [h5]
      simpa using hu
    obtain ⟨q, hq⟩ := choose_lt each
    have hlens : ∀ r ∈ (List.range len).map q, r.length = n := by
      intro r hr
      obtain ⟨i, hi', rfl⟩ := List.mem_map.1 hr
      exact (hq i (by simpa using hi')).1
    refine ⟨(List.range len).map q, by simp, ?_, ?_, by simp; omega, hm, by simpa using hl⟩
    · by_cases hz : len = 0
      · subst hz; exact .inl rfl
      · obtain ⟨v0, hv0⟩ := some_at (xs := ints .i64 (q 0)) (j := 0) (by rw [ints_length, (hq 0 (by omega)).1]; exact hp)
        have h1 := (hq 0 (by omega)).2.2 0 v0 hv0
        have hsp := World.cell?_spot h1
        have hb := World.block_lt_of_cell? W _ h1
        obtain ⟨b, o, s⟩ := x
        simp [Addr.add] at hsp hb
        subst hsp
        refine .inr ⟨b, o, rfl, hb, fun j u hu => ?_⟩
        have hjl := (List.getElem?_eq_some_iff.1 hu).1
        rw [rowsC_length hlens, List.length_map, List.length_range] at hjl
        have hi' : j / n < len := Nat.div_lt_of_lt_mul (by rw [Nat.mul_comm]; exact hjl)
        have hjn : j % n < n := Nat.mod_lt _ hp
        have hdm : j / n * n + j % n = j := by rw [Nat.mul_comm]; exact Nat.div_add_mod j n
        have hg : ((List.range len).map q)[j / n]? = some (q (j / n)) := by simp [hi']
        have h6 := rowsC_at hlens hg hjn
        rw [hdm] at h6
        rw [h6] at hu
        have h7 := (hq _ hi').2.2 _ _ hu
        rw [hdm] at h7
        have add' : (⟨b, o, none⟩ : Addr).add j = ⟨b, o + j, none⟩ := by
          unfold Addr.add; split
          · rename_i e; subst e; rfl
          · rfl
        rw [add'] at h7
        exact h7
    · intro r hr
      obtain ⟨i, hi', rfl⟩ := List.mem_map.1 hr
      exact ⟨(hq i (by simpa using hi')).1, (hq i (by simpa using hi')).2.1⟩
/-- What a slice takes by the form's own reach. -/
theorem sizedRows {W : World} {t e : TypeId} {a : Option Addr} {len cap : Nat} {d : DataW H} {p : List MemPlace} {sp : Nat → Bool} {hd : Bool} {ts : List TypeId} {ds : List (DataW H)} {j N : Nat}
    (ht : Try.prog.underlying t = some (.slice e))
    (h : DataW.Trod enc Try.prog W 0 sp hd t (.slice a len cap) d p) (hsz : (DataW.weightsEach Try.prog ts ds).all (· ≤ reachBytes) = true) (hts : ts[j]? = some t) (hds : ds[j]? = some d) (hN : Try.prog.bytesOf e = N) : len * N ≤ 140737488351232 := by
  obtain ⟨fuel, hf⟩ := h
  rcases open_slice ht hf with ⟨hcs, _⟩ | ⟨x, l, c, m, k, D, Pl, hcs, _, hl, hm, hmm, hx, hi⟩
  · simp [Value.cells] at hcs
    obtain ⟨rfl, rfl, rfl⟩ := hcs
    omega
  · simp [Value.cells] at hcs
    obtain ⟨rfl, rfl, rfl⟩ := hcs
    simp only [Prod.mk.injEq] at hx
    have hd := hx.1
    subst hd
    have h3 := sized_slice hsz hts hds ht
    rw [hN] at h3
    have h5 : len * N ≤ (((List.range len).map D).length + ((List.range (m - len)).map fun j => D (len + j)).length) * N := Nat.mul_le_mul_right N (by simp)
    have h6 : reachBytes = 140737488351232 := rfl
    omega
end
end Go.Proofs.Ytbboakdfnjjddaa

/- From the form's readings of the arguments to the words of Mem: slices of integers, slices of structs of integers. -/
namespace Go.Proofs.Ytbboakdfnjjddaa
open Go.RowKit Go.ChangeShapes Go.WideShapes Go.ChangeAt Go.Deep
set_option linter.unusedVariables false
set_option linter.unusedSimpArgs false
set_option maxRecDepth 100000

theorem own : ownKnob Try.prog.godebug = none := by kernel_rfl
theorem laidOut : laidOutB Try.prog = true := by kernel_rfl

section
variable {H : Type} {enc : TypeId × Value → H}

theorem bulk_pos (d : DataW H) : 1 ≤ Rows.uptoBulk d := by
  cases d with
  | lit l => cases l <;> simp [Rows.uptoBulk]
  | nil => simp [Rows.uptoBulk]
  | ptr d => simp [Rows.uptoBulk]
  | slice elems spare => simp [Rows.uptoBulk]
  | agg parts => simp [Rows.uptoBulk]
  | iface t d => simp [Rows.uptoBulk]
  | map entries => simp [Rows.uptoBulk]
  | held h => simp [Rows.uptoBulk]
theorem bulk_length (l : List (DataW H)) : l.length ≤ Rows.uptoBulkAll l := by
  induction l with
  | nil => simp [Rows.uptoBulkAll]
  | cons x r ih => have := bulk_pos x; simp only [Rows.uptoBulkAll, List.length_cons]; omega

/-- A slice of integers that came in. -/
theorem openInts {W : World} {t e : TypeId} {k : IntKind} {a : Option Addr} {len cap : Nat} {d : DataW H} {p : List MemPlace} {sp : Nat → Bool} {hd : Bool}
    (ht : Try.prog.underlying t = some (.slice e)) (he : Try.prog.underlying e = some (.int k)) (hc : Try.prog.cellsOf e = 1)
    (h : DataW.Trod enc Try.prog W 0 sp hd t (.slice a len cap) d p) :
    ∃ xs : List Int, len = xs.length ∧ Seen W W.heap.size a (ints k xs) ∧ (∀ x ∈ xs, (Lit.int k x).wf = true) ∧ xs.length ≤ maxLen ∧ cap ≤ maxLen ∧ xs.length ≤ cap ∧ xs.length ≤ Rows.uptoBulk d := by
  obtain ⟨fuel, hf⟩ := h
  rcases open_ints ht he hc hf with ⟨hcs, _⟩ | ⟨x, l, c, zs, hcs, _, hl, hm, hz, hx, hcell, hwz⟩
  · simp [Value.cells] at hcs
    obtain ⟨rfl, rfl, rfl⟩ := hcs
    exact ⟨[], rfl, .inl rfl, by simp, Nat.zero_le _, Nat.zero_le _, Nat.zero_le _, Nat.zero_le _⟩
  · simp [Value.cells] at hcs
    obtain ⟨rfl, rfl, rfl⟩ := hcs
    have hlz : len ≤ zs.length := by rw [hz]; split <;> omega
    simp only [Prod.mk.injEq] at hx
    refine ⟨zs.take len, by simp [Nat.min_eq_left hlz], ?_, fun x hx => hwz x (List.mem_of_mem_take hx), by simp; omega, hm, by simp; omega, ?_⟩
    · by_cases h0 : len = 0
      · subst h0; exact .inl rfl
      · have h1 := hcell 0 (by omega)
        have hsp := World.cell?_spot h1
        have hb := World.block_lt_of_cell? W _ h1
        obtain ⟨b, o, s⟩ := x
        simp [Addr.add] at hsp hb
        subst hsp
        refine .inr ⟨b, o, rfl, hb, fun j u hu => ?_⟩
        have hj : j < zs.length := by
          have := (List.getElem?_eq_some_iff.1 hu).1
          simp [ints] at this; omega
        have h2 := hcell j hj
        have h3 : (ints k (zs.take len))[j]? = some (.int k (zs.getD j 0)) := by
          have hjl : j < len := by
            have := (List.getElem?_eq_some_iff.1 hu).1
            simp [ints] at this; omega
          simp [ints, List.getElem?_take, hjl, hj]
        rw [h3] at hu
        injection hu with hu
        subst hu
        rw [← h2]
        unfold Addr.add
        split
        · rename_i e; subst e; rfl
        · rfl
    · rw [hx.1]
      simp only [Rows.uptoBulk]
      have h1 := bulk_length (lits (H := H) k (zs.take len))
      have h2 : (lits (H := H) k (zs.take len)).length = (zs.take len).length := by simp [lits]
      omega

/-- What a slice of integers takes by the form's own reach. -/
theorem sizedInts {W : World} {t e : TypeId} {k : IntKind} {a : Option Addr} {len cap : Nat} {d : DataW H} {p : List MemPlace} {sp : Nat → Bool} {hd : Bool} {ts : List TypeId} {ds : List (DataW H)} {j N : Nat}
    (ht : Try.prog.underlying t = some (.slice e)) (he : Try.prog.underlying e = some (.int k)) (hc : Try.prog.cellsOf e = 1)
    (h : DataW.Trod enc Try.prog W 0 sp hd t (.slice a len cap) d p) (hsz : (DataW.weightsEach Try.prog ts ds).all (· ≤ reachBytes) = true) (hts : ts[j]? = some t) (hds : ds[j]? = some d) (hN : Try.prog.bytesOf e = N) : len * N ≤ 140737488351232 := by
  obtain ⟨fuel, hf⟩ := h
  rcases open_ints ht he hc hf with ⟨hcs, _⟩ | ⟨x, l, c, zs, hcs, _, hl, hm, hz, hx, hcell, hwz⟩
  · simp [Value.cells] at hcs
    obtain ⟨rfl, rfl, rfl⟩ := hcs
    omega
  · simp [Value.cells] at hcs
    obtain ⟨rfl, rfl, rfl⟩ := hcs
    have hlz : len ≤ zs.length := by rw [hz]; split <;> omega
    simp only [Prod.mk.injEq] at hx
    have hd := hx.1
    subst hd
    have h3 := sized_slice hsz hts hds ht
    rw [hN] at h3
    have h4 : len ≤ (lits (H := H) k (zs.take len)).length + (lits (H := H) k (zs.drop len)).length := by simp [lits]; omega
    have h5 := Nat.mul_le_mul_right N h4
    have h6 : reachBytes = 140737488351232 := rfl
    omega

/-- A slice of structs of two ints that came in. -/
theorem openPairs {W : World} {t e ti : TypeId} {f0 f1 : Field} {a : Option Addr} {len cap : Nat} {d : DataW H} {p : List MemPlace} {sp : Nat → Bool} {hd : Bool}
    (ht : Try.prog.underlying t = some (.slice e)) (he : Try.prog.underlying e = some (.struct #[f0, f1])) (ce : Try.prog.cellsOf e = 2) (o0 : f0.offset = 0) (o1 : f1.offset = 1)
    (c0 : Try.prog.cellsOf f0.type = 1) (c1 : Try.prog.cellsOf f1.type = 1) (h0 : Try.prog.underlying f0.type = some (.int .i64)) (h1 : Try.prog.underlying f1.type = some (.int .i64))
    (h : DataW.Trod enc Try.prog W 0 sp hd t (.slice a len cap) d p) :
    ∃ l : List (Int × Int), len = l.length ∧ Seen W W.heap.size a (pairCells l) ∧ (∀ f ∈ l, (Lit.int .i64 f.1).wf = true ∧ (Lit.int .i64 f.2).wf = true) ∧ l.length ≤ maxLen ∧ cap ≤ maxLen ∧ l.length ≤ cap ∧ l.length ≤ Rows.uptoBulk d := by
  obtain ⟨fuel, hf⟩ := h
  rcases open_slice_pairs ht he ce o0 o1 c0 c1 hf with ⟨hcs, _⟩ | ⟨x, l, c, m, n, V0, V1, D0, D1, P0, P1, hcs, _, hl, hm, hmm, hx, hi⟩
  · simp [Value.cells] at hcs
    obtain ⟨rfl, rfl, rfl⟩ := hcs
    exact ⟨[], rfl, .inl rfl, by simp, Nat.zero_le _, Nat.zero_le _, Nat.zero_le _, Nat.zero_le _⟩
  · simp [Value.cells] at hcs
    obtain ⟨rfl, rfl, rfl⟩ := hcs
    have hlm : len ≤ m := by rw [hmm]; split <;> omega
    have each : ∀ i, i < len → ∃ q : Int × Int, V0 i = .int .i64 q.1 ∧ V1 i = .int .i64 q.2 ∧ (Lit.int .i64 q.1).wf = true ∧ (Lit.int .i64 q.2).wf = true := by
      intro i hil
      obtain ⟨_, _, g0, g1⟩ := hi i (by omega)
      obtain ⟨a0, e0, _, w0⟩ := DataW.trod_int h0 g0
      obtain ⟨a1, e1, _, w1⟩ := DataW.trod_int h1 g1
      simp at e0 e1
      exact ⟨(a0, a1), e0, e1, w0, w1⟩
    obtain ⟨q, hq⟩ := choose_lt each
    simp only [Prod.mk.injEq] at hx
    refine ⟨(List.range len).map q, by simp, ?_, ?_, by simp; omega, hm, by simpa using hl, ?_⟩
    · by_cases hz : len = 0
      · subst hz; exact .inl rfl
      · have h1 := (hi 0 (by omega)).1
        have hsp := World.cell?_spot h1
        have hb := World.block_lt_of_cell? W _ h1
        obtain ⟨b, o, s⟩ := x
        simp [Addr.add] at hsp hb
        subst hsp
        refine .inr ⟨b, o, rfl, hb, fun j u hu => ?_⟩
        have hj : j / 2 < len := by
          have := (List.getElem?_eq_some_iff.1 hu).1
          simp [pairCells_length] at this; omega
        obtain ⟨c0, c1, _, _⟩ := hi (j / 2) (by omega)
        have add' : ∀ n, (⟨b, o, none⟩ : Addr).add n = ⟨b, o + n, none⟩ := by
          intro n; unfold Addr.add; split
          · rename_i e; subst e; rfl
          · rfl
        rw [add'] at c0 c1
        have hg : ((List.range len).map q)[j / 2]? = some (q (j / 2)) := by simp [hj]
        rw [pairCells_at _ _ _ hg] at hu
        obtain ⟨e0, e1, _, _⟩ := hq (j / 2) hj
        injection hu with hu
        rcases Nat.mod_two_eq_zero_or_one j with hp | hp
        · rw [if_pos hp, ← e0] at hu
          rw [← hu, ← c0]; congr 2; omega
        · rw [if_neg (by omega), ← e1] at hu
          rw [← hu, ← c1]; congr 2; omega
    · intro f hf
      obtain ⟨i, hi', rfl⟩ := List.mem_map.1 hf
      exact (hq i (by simpa using hi')).2.2
    · rw [hx.1]
      simp only [Rows.uptoBulk]
      have h1 := bulk_length ((List.range len).map fun i => DataW.agg [D0 i, D1 i])
      simp at h1 ⊢
      omega
end
end Go.Proofs.Ytbboakdfnjjddaa

/- From the form's reading of a table that came in to its counts and its symbols. -/
namespace Go.Proofs.Ytbboakdfnjjddaa
open Go.RowKit Go.ChangeShapes Go.WideShapes Go.ChangeAt Go.Deep
set_option linter.unusedVariables false
set_option linter.unusedSimpArgs false
set_option maxRecDepth 100000
section
variable {H : Type} {enc : TypeId × Value → H}
theorem take_drop_one {α : Type} {l : List α} {i : Nat} {x : α} (h : l[i]? = some x) : (l.drop i).take 1 = [x] := by
  obtain ⟨hi, e⟩ := List.getElem?_eq_some_iff.1 h
  rw [List.drop_eq_getElem_cons hi, e]; rfl
/-- Cells that read as an array of integers. -/
theorem openArr {W : World} {t e : TypeId} {k : IntKind} {n fuel : Nat} {l : List Value} {x : DataW H × List MemPlace} {sp : Nat → Bool} {hd : Bool}
    (ht : Try.prog.underlying t = some (.array n e)) (he : Try.prog.underlying e = some (.int k)) (hc : Try.prog.cellsOf e = 1) (hct : Try.prog.cellsOf t = n)
    (h : DataW.trod enc Try.prog W 0 sp hd fuel t l = some x) : ∃ cs : List Int, l = ints k cs ∧ cs.length = n ∧ ∀ c ∈ cs, (Lit.int k c).wf = true := by
  obtain ⟨xs, m, _, _, hl, hx, hi⟩ := DataW.trod_array ht h
  rw [hct] at hl
  rw [hc] at hi
  have each : ∀ i, i < n → ∃ c : Int, l[i]? = some (.int k c) ∧ (Lit.int k c).wf = true := by
    intro i hin
    obtain ⟨v, hv⟩ := some_at (xs := l) (j := i) (by omega)
    have h2 := hi i hin
    rw [Nat.mul_one, take_drop_one hv] at h2
    obtain ⟨y, hy⟩ := some_at (xs := xs) (j := i) (by omega)
    rw [hy] at h2
    obtain ⟨c, e0, _, w0⟩ := DataW.trod_int he h2
    simp at e0
    exact ⟨c, by rw [hv, e0], w0⟩
  obtain ⟨q, hq⟩ := choose_lt each
  refine ⟨(List.range n).map q, ?_, by simp, ?_⟩
  · apply List.ext_getElem?
    intro i
    by_cases hin : i < n
    · rw [(hq i hin).1]; simp [ints, hin]
    · rw [List.getElem?_eq_none (by omega), List.getElem?_eq_none (by simp [ints]; omega)]
  · intro c hc
    obtain ⟨i, hi', rfl⟩ := List.mem_map.1 hc
    exact (hq i (by simpa using hi')).2
/-- A table that came in. -/
theorem openTable {W : World} {base : Nat} {v : Value} {d : DataW H} {p : List MemPlace} {sp : Nat → Bool} {hd : Bool} (hv : Value.okWide Try.prog W .any base 34 v) (h : DataW.Trod enc Try.prog W 0 sp hd 34 v d p) :
    ∃ (cs : List Int) (A : Option Addr) (c : Nat) (syms : List Int), v = tabV cs A syms.length c ∧ cs.length = 16 ∧ (∀ x ∈ cs, -9223372036854775808 ≤ x ∧ x ≤ 9223372036854775807) ∧ Seen W W.heap.size A (ints .i64 syms) ∧ (∀ x ∈ syms, (Lit.int .i64 x).wf = true) ∧ syms.length ≤ maxLen ∧ syms.length ≤ Rows.uptoBulk d ∧ syms.length ≤ c := by
  obtain ⟨cells, rfl, hsz⟩ := okWide_struct Try.underlying34 hv
  have h17 : Try.prog.cellsOf 34 = 17 := by kernel_rfl
  rw [h17] at hsz
  obtain ⟨fuel, hf⟩ := h
  obtain ⟨y0, y1, n, hx, _, h0, h1⟩ := trod_struct2 Try.underlying34 hf
  have c0 : Try.prog.cellsOf 32 = 16 := by kernel_rfl
  have c1 : Try.prog.cellsOf 23 = 1 := by kernel_rfl
  simp only [Value.cells] at h0 h1
  rw [c0] at h0
  rw [c1] at h1
  obtain ⟨L⟩ := cells
  simp only [List.size_toArray] at hsz
  simp only [List.drop_zero] at h0
  obtain ⟨cs, e0, hcs, hwf⟩ := openArr Try.underlying32 Try.underlying3 (by kernel_rfl) c0 h0
  obtain ⟨A, len, cap, e1⟩ := Go.Joins.slice_form Try.underlying23 h1
  rw [e1] at h1
  obtain ⟨syms, rfl, hs, hw, hl, _, hlc, hb⟩ := openInts (W := W) (a := A) (len := len) (cap := cap) (d := y1.1) (p := y1.2) Try.underlying23 Try.underlying3 (by kernel_rfl) ⟨n, h1⟩
  have e2 : L = tabCells cs A syms.length cap := by
    rw [tabCells, ← e0, ← e1, List.take_of_length_le (l := L.drop 16) (by simp; omega), List.take_append_drop]
  simp only [Prod.mk.injEq] at hx
  refine ⟨cs, A, cap, syms, by rw [e2], hcs, fun x hx => bounds_i64 (hwf x hx), hs, hw, hl, ?_, hlc⟩
  rw [hx.1]
  simp only [Rows.uptoBulk, Rows.uptoBulkAll]
  omega
end
end Go.Proofs.Ytbboakdfnjjddaa

/- From the form's reading of two tables, and of a slice of blocks, to the words of Mem. -/
namespace Go.Proofs.Ytbboakdfnjjddaa
open Go.RowKit Go.ChangeShapes Go.WideShapes Go.ChangeAt Go.Deep
set_option linter.unusedVariables false
set_option linter.unusedSimpArgs false
set_option maxRecDepth 100000
section
variable {H : Type} {enc : TypeId × Value → H}
theorem block_cells {W : World} {sp : Nat → Bool} {hd : Bool} (fuel : Nat) (cs : List Value) (x : DataW H × List MemPlace) (h : DataW.trod enc Try.prog W 0 sp hd fuel 47 cs = some x) : ∃ is : List Int, cs = ints .i64 is ∧ is.length = 64 ∧ ∀ c ∈ is, (Lit.int .i64 c).wf = true :=
  openArr Try.underlying47 Try.underlying3 (by kernel_rfl) (by kernel_rfl) h
/-- A slice of blocks that came in. -/
theorem openBlocks {W : World} {a : Option Addr} {len cap : Nat} {d : DataW H} {p : List MemPlace} {sp : Nat → Bool} {hd : Bool} (h : DataW.Trod enc Try.prog W 0 sp hd 22 (.slice a len cap) d p) :
    ∃ L : List (List Int), len = L.length ∧ Seen W W.heap.size a (rowsC L) ∧ (∀ r ∈ L, r.length = 64) ∧ L.length ≤ maxLen := by
  obtain ⟨L, h1, h2, h3, h4, _, _⟩ := openRows Try.underlying22 (by kernel_rfl) (by omega) block_cells h
  exact ⟨L, h1, h2, fun r hr => (h3 r hr).1, h4⟩
theorem tab_cells {W : World} {fuel : Nat} {L : List Value} {x : DataW H × List MemPlace} {sp : Nat → Bool} {hd : Bool} (hsz : L.length = 17) (hf : DataW.trod enc Try.prog W 0 sp hd fuel 34 L = some x) :
    ∃ (cs : List Int) (A : Option Addr) (c : Nat) (syms : List Int), L = tabCells cs A syms.length c ∧ cs.length = 16 ∧ (∀ x ∈ cs, -9223372036854775808 ≤ x ∧ x ≤ 9223372036854775807) ∧ Seen W W.heap.size A (ints .i64 syms) ∧ syms.length ≤ maxLen ∧ syms.length ≤ c := by
  obtain ⟨y0, y1, n, hx, _, h0, h1⟩ := trod_struct2 Try.underlying34 hf
  have c0 : Try.prog.cellsOf 32 = 16 := by kernel_rfl
  have c1 : Try.prog.cellsOf 23 = 1 := by kernel_rfl
  rw [c0] at h0
  rw [c1] at h1
  simp only [List.drop_zero] at h0
  obtain ⟨cs, e0, hcs, hwf⟩ := openArr Try.underlying32 Try.underlying3 (by kernel_rfl) c0 h0
  obtain ⟨A, len, cap, e1⟩ := Go.Joins.slice_form Try.underlying23 h1
  rw [e1] at h1
  obtain ⟨syms, rfl, hs, hw, hl, _, hlc, hb⟩ := openInts (W := W) (a := A) (len := len) (cap := cap) (d := y1.1) (p := y1.2) Try.underlying23 Try.underlying3 (by kernel_rfl) ⟨n, h1⟩
  have e2 : L = tabCells cs A syms.length cap := by
    rw [tabCells, ← e0, ← e1, List.take_of_length_le (l := L.drop 16) (by simp; omega), List.take_append_drop]
  exact ⟨cs, A, cap, syms, e2, hcs, fun x hx => bounds_i64 (hwf x hx), hs, hl, hlc⟩
/-- Two tables that came in. -/
theorem openTables {W : World} {base : Nat} {v : Value} {d : DataW H} {p : List MemPlace} {sp : Nat → Bool} {hd : Bool} (hv : Value.okWide Try.prog W .any base 36 v) (h : DataW.Trod enc Try.prog W 0 sp hd 36 v d p) :
    ∃ (cs : List Int) (A : Option Addr) (c : Nat) (syms : List Int) (cs2 : List Int) (A2 : Option Addr) (c2 : Nat) (syms2 : List Int), v = tabsV cs A syms.length c cs2 A2 syms2.length c2 ∧ cs.length = 16 ∧ (∀ x ∈ cs, -9223372036854775808 ≤ x ∧ x ≤ 9223372036854775807) ∧ Seen W W.heap.size A (ints .i64 syms) ∧ syms.length ≤ maxLen ∧ syms.length ≤ c ∧
      cs2.length = 16 ∧ (∀ x ∈ cs2, -9223372036854775808 ≤ x ∧ x ≤ 9223372036854775807) ∧ Seen W W.heap.size A2 (ints .i64 syms2) ∧ syms2.length ≤ maxLen ∧ syms2.length ≤ c2 := by
  obtain ⟨cells, rfl, hsz⟩ := okWide_struct Try.underlying36 hv
  have h34 : Try.prog.cellsOf 36 = 34 := by kernel_rfl
  rw [h34] at hsz
  obtain ⟨fuel, hf⟩ := h
  obtain ⟨y0, y1, n, hx, _, h0, h1⟩ := trod_struct2 Try.underlying36 hf
  have c0 : Try.prog.cellsOf 34 = 17 := by kernel_rfl
  simp only [Value.cells] at h0 h1
  rw [c0] at h0 h1
  obtain ⟨L⟩ := cells
  simp only [List.size_toArray] at hsz
  simp only [List.drop_zero] at h0
  obtain ⟨cs, A, c, syms, e0, g1, g2, g3, g4, g5⟩ := tab_cells (by simp; omega) h0
  obtain ⟨cs2, A2, c2, syms2, e1, k1, k2, k3, k4, k5⟩ := tab_cells (by simp; omega) h1
  have e2 : L = tabsCells cs A syms.length c cs2 A2 syms2.length c2 := by
    rw [tabsCells, ← e0, ← e1, List.take_of_length_le (l := L.drop 17) (by simp; omega), List.take_append_drop]
  exact ⟨cs, A, c, syms, cs2, A2, c2, syms2, by rw [tabsV, e2], g1, g2, g3, g4, g5, k1, k2, k3, k4, k5⟩
end
end Go.Proofs.Ytbboakdfnjjddaa
