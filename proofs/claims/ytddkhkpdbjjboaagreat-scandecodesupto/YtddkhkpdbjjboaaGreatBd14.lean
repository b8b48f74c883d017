/- Texts shared by the claims of this seat, in one. -/
import Derived.Test.YtddkhkpdbjjboaaGreatBd13
import Derived.Test.YtddkhkpdbjjboaaGreatBd9
import Derived.Test.YtddkhkpdbjjboaaGreatBd10
import Derived.Test.YtddkhkpdbjjboaaGreatBd4
import Derived.Test.YtddkhkpdbjjboaaGreatBd6
import Derived.Deep.Cut
/- The reference's reader of a token out of digits (SegDecode's closure): its contract. -/
namespace Go.Proofs.YtddkhkpdbjjboaaGreat
open Go.RowKit
set_option linter.unusedVariables false
set_option linter.unusedSimpArgs false
set_option maxRecDepth 100000

def tok000 : List Value := [.int .i64 0, .int .i64 0, .int .i64 0]
theorem tok000_one : ∀ u ∈ tok000, u.oneCell' = true := by intro u hu; simp [tok000] at hu; subst hu; rfl
theorem tokw_one (a b c : Int) : ∀ u ∈ [Value.int .i64 a, .int .i64 b, .int .i64 c], u.oneCell' = true := by intro u hu; simp at hu; rcases hu with rfl | rfl | rfl <;> rfl
theorem wpList_store_newQ {P : Program} {ops : Array Oper} {rest : List Oper} {o : Oper} {a : Act} {Q : Exit → Act → World → Prop} (w0 : World) (n : Nat) (hn : w0.heap.size = n) (hgd : o.guard = none) (t : TypeId) (x y : Operand) (ho : o.op = .store t x y) (c : Array Value) (c' : List Value)
    (hx : a.eval x = .pointer (some ⟨n, 0, none⟩)) (hy : a.eval y = .agg c'.toArray) (hi : (P.info? t).map (·.size) = some c'.length) (hsz : c.size = c'.length) (h1 : ∀ u ∈ c', u.oneCell' = true)
    (h : wpList P ops Q rest (a.put o.dst undef) (w0.alloc (.cells c'.toArray t))) : wpList P ops Q (o :: rest) a (w0.alloc (.cells c t)) := by
  subst hn
  exact wpList_store_new w0 hgd t x y ho c c' hx hy hi hsz h1 h
theorem grown_grown' {w w1 w2 : World} {g : Nat} (h : w.grownBy w1 (some g)) (h2 : w1.grownBy w2 (some g)) : w.grownBy w2 (some g) := h.trans h2
/-- Where the source stands: block T holds the tables, block g the digits left. -/
structure SrcD (cs syms : List Int) (A : Option Addr) (c : Nat) (cs2 syms2 : List Int) (A2 : Option Addr) (c2 G T g N : Nat) (w : World) (s : List Bool) : Prop where
  tabs : Blk w T (tabsCells cs A syms.length c cs2 A2 syms2.length c2) 27
  text : Blk w g [.string (txt s)] 9
  one : Seen w G A (ints .i64 syms)
  two : Seen w G A2 (ints .i64 syms2)
  few : s.length ≤ N
theorem SrcD.below {cs syms : List Int} {A : Option Addr} {c : Nat} {cs2 syms2 : List Int} {A2 : Option Addr} {c2 G T g N B : Nat} {w w' : World} {s : List Bool} (h : SrcD cs syms A c cs2 syms2 A2 c2 G T g N w s) (hb : Below B w w') (hT : T < B) (hg : g < B) (hG : G ≤ B) : SrcD cs syms A c cs2 syms2 A2 c2 G T g N w' s :=
  ⟨h.tabs.below hb hT, h.text.below hb hg, h.one.below hb hG, h.two.below hb hG, h.few⟩
theorem info_tokR : (Tryz.prog.info? 73).map (·.size) = some 3 := by kernel_rfl
section
variable {fw rw_ : List (Int × Nat × Nat)} {first : Bool} {b : List Bool}
theorem stepR_word (h : nextE (wsOf fw rw_ first) b ≠ 0) : stepS fw rw_ first b = .inl (nextE (wsOf fw rw_ first) b) := if_pos h
theorem stepR_wide (h : nextE (wsOf fw rw_ first) b = 0) (h2 : 12 < widS first (nextS (wsOf fw rw_ first) b) ∨ (first = false ∧ 11 < widS first (nextS (wsOf fw rw_ first) b))) : stepS fw rw_ first b = .inl 4 := by
  unfold stepS; rw [if_neg (by rw [h]; decide), if_pos h2]
theorem stepR_short (h : nextE (wsOf fw rw_ first) b = 0) (h2 : ¬ (12 < widS first (nextS (wsOf fw rw_ first) b) ∨ (first = false ∧ 11 < widS first (nextS (wsOf fw rw_ first) b)))) (h3 : (b.drop (nextL (wsOf fw rw_ first) b)).length < (widS first (nextS (wsOf fw rw_ first) b)).toNat) : stepS fw rw_ first b = .inl 3 := by
  unfold stepS; rw [if_neg (by rw [h]; decide), if_neg h2, if_pos h3]
theorem stepR_ok (h : nextE (wsOf fw rw_ first) b = 0) (h2 : ¬ (12 < widS first (nextS (wsOf fw rw_ first) b) ∨ (first = false ∧ 11 < widS first (nextS (wsOf fw rw_ first) b)))) (h3 : ¬ (b.drop (nextL (wsOf fw rw_ first) b)).length < (widS first (nextS (wsOf fw rw_ first) b)).toNat) : stepS fw rw_ first b = .inr ((nextS (wsOf fw rw_ first) b, widS first (nextS (wsOf fw rw_ first) b), (valB ((b.drop (nextL (wsOf fw rw_ first) b)).take (widS first (nextS (wsOf fw rw_ first) b)).toNat) : Int)), (b.drop (nextL (wsOf fw rw_ first) b)).drop (widS first (nextS (wsOf fw rw_ first) b)).toNat) := by
  unfold stepS; rw [if_neg (by rw [h]; decide), if_neg h2, if_neg h3]
end
/-- The way out with an error. -/
theorem segNext_err {R : World → List Bool → Prop} {w w1 : World} {g : Nat} {a : Act} {er : Int} {st : Int ⊕ ((Int × Int × Int) × List Bool)} (hst : st = .inl er) (h4 : a.tmps.getD 4 undef = .pointer (some ⟨w.heap.size, 0, none⟩)) (h5 : a.tmps.getD 5 undef = .int .i64 er) (hdf : a.defers = [])
    (HB : Blk w1 w.heap.size tok000 73) (hg : w.grownBy w1 (some g)) :
    bodyPost Tryz.prog Tryz.f35 (fun e w' => NextPost R g w st e w') .ret a w1 := by
  subst hst
  exact bodyPost_ret (results_row_tmp rfl _ _ w.heap.size 73 tok000.toArray (0, 0) _ (.int .i64 er) h4 h5 HB Tryz.underlying73 rfl info_tokR) hdf ⟨rfl, hg⟩
/-- The way out with a token. -/
theorem segNext_ok {R : World → List Bool → Prop} {w w1 : World} {g : Nat} {a : Act} {t0 t1 t2 : Int} {s : List Bool} {st : Int ⊕ ((Int × Int × Int) × List Bool)} (hst : st = .inr ((t0, t1, t2), s)) (h4 : a.tmps.getD 4 undef = .pointer (some ⟨w.heap.size, 0, none⟩)) (h5 : a.tmps.getD 5 undef = .int .i64 0) (hdf : a.defers = [])
    {ys : List Value} (hys : ys = [.int .i64 t0, .int .i64 t1, .int .i64 t2]) (HB : Blk w1 w.heap.size ys 73) (hg : w.grownBy w1 (some g)) (hR : R w1 s) :
    bodyPost Tryz.prog Tryz.f35 (fun e w' => NextPost R g w st e w') .ret a w1 := by
  subst hst
  exact bodyPost_ret (results_row_tmp rfl _ _ w.heap.size 73 ys.toArray (0, 0) _ (.int .i64 0) h4 h5 HB Tryz.underlying73 rfl (by rw [hys]; exact info_tokR)) hdf ⟨by rw [hys]; rfl, hg, hR⟩
set_option maxRecDepth 100000 in
set_option maxHeartbeats 1000000 in
theorem segNext_first (cs syms : List Int) (A : Option Addr) (c : Nat) (cs2 syms2 : List Int) (A2 : Option Addr) (c2 G T g N : Nat) (s : List Bool) (w : World)
    (hcs : cs.length = 16) (hcs2 : cs2.length = 16) (h1 : checkErr cs syms = 0) (h2 : checkErr cs2 syms2 = 0) (hN : N ≤ 140737488355328) (hTg : T ≠ g) (hG : G ≤ w.heap.size) (hGT : G ≤ T) (hGg : G ≤ g)
    (hS : SrcD cs syms A c cs2 syms2 A2 c2 G T g N w s) :
    Calls Tryz.prog 35 #[.bool true, .pointer (some ⟨T, 0, none⟩), .pointer (some ⟨g, 0, none⟩)] w fun e w' => NextPost (SrcD cs syms A c cs2 syms2 A2 c2 G T g N) g w (stepS (outWords cs syms) (outWords cs2 syms2) true s) e w' := by
  obtain ⟨ST, SX, SA, SB, SN⟩ := hS
  have hTz := ST.lt
  have hgz := SX.lt
  obtain ⟨l, hf, how, hll⟩ := fine_of h1
  have HSy := veil (fun W (h : Seen W G A (ints .i64 syms)) (hG : G ≤ W.heap.size) => symOf_any cs syms l A c G s W hcs hf h hG (by omega))
  rw [← how] at HSy
  obtain ⟨ws, hws⟩ : ∃ ws, ws = wsOf (outWords cs syms) (outWords cs2 syms2) true := ⟨_, rfl⟩
  have hws2 : outWords cs syms = ws := hws.symm
  rw [hws2] at HSy
  have hsm : ∀ t ∈ ws, 0 ≤ t.1 ∧ t.1 ≤ 255 := by
    rw [← hws2, how]
    exact fun t ht => (hf.word hcs ht).1
  have hL := nextL_le (ws := ws) (b := s)
  have hSy := nextS_wf (ws := ws) (b := s) hsm
  have E1 := veil (stepR_word (fw := outWords cs syms) (rw_ := outWords cs2 syms2) (first := true) (b := s))
  have E2 := veil (stepR_wide (fw := outWords cs syms) (rw_ := outWords cs2 syms2) (first := true) (b := s))
  have E3 := veil (stepR_short (fw := outWords cs syms) (rw_ := outWords cs2 syms2) (first := true) (b := s))
  have E4 := veil (stepR_ok (fw := outWords cs syms) (rw_ := outWords cs2 syms2) (first := true) (b := s))
  have hnr := nextR_hit (ws := ws) (b := s)
  rw [← hws] at E1 E2 E3 E4
  obtain ⟨st, hst⟩ : ∃ st, st = stepS (outWords cs syms) (outWords cs2 syms2) true s := ⟨_, rfl⟩
  rw [← hst] at E1 E2 E3 E4 ⊢
  have hr0 := ST.range
  have hr1 := range_left hr0
  have hr2 := range_right hr0
  have h17 : (tabCells cs A syms.length c).length = 17 := tabCells_length hcs
  have h17b : (tabCells cs2 A2 syms2.length c2).length = 17 := tabCells_length hcs2
  have o17 := tabCells_one (cs := cs) (A := A) (n := syms.length) (c := c)
  have o17b := tabCells_one (cs := cs2) (A := A2) (n := syms2.length) (c := c2)
  rw [h17] at hr2
  have HR := veil (fun W s2 (a1 : Blk W T (tabsCells cs A syms.length c cs2 A2 syms2.length c2) 27) (a2 : Blk W g [.string (txt s2)] 9) (a3 : Seen W G A (ints .i64 syms)) (a4 : Seen W G A2 (ints .i64 syms2)) (a5 : s2.length ≤ N) => (⟨a1, a2, a3, a4, a5⟩ : SrcD cs syms A c cs2 syms2 A2 c2 G T g N W s2))
  obtain ⟨R, hR⟩ : ∃ R, R = SrcD cs syms A c cs2 syms2 A2 c2 G T g N := ⟨_, rfl⟩
  rw [← hR] at HR ⊢
  have hb1 := below1 w (.cells tok000.toArray 73)
  have hB1 := Blk.new w tok000 73
  have hz1 : (w.alloc (.cells tok000.toArray 73)).heap.size = w.heap.size + 1 := by simp
  have hra := range_below hr1 hb1 hTz
  have hrb := range_below hr2 hb1 hTz
  have hST := ST; have hSX := SX
  have Hnr := veil hnr; have HSbd := veil hSy; have HL := veil hL; have HSn := veil SN
  have H17 := veil h17; have H17b := veil h17b
  have HST := veil ST; have HSX := veil SX; have HSA := veil SA; have HSB := veil SB
  clear hr0 hr1 hr2 ST SX SA SB hws hws2 how hf hll hsm hR hst hcs hcs2 h1 h2 hST hSX hnr hSy hL SN h17 h17b
  unfold tabV at HSy
  generalize tabsCells cs A syms.length c cs2 A2 syms2.length c2 = zs at *
  generalize tabCells cs A syms.length c = xs at *
  generalize tabCells cs2 A2 syms2.length c2 = ys at *
  obtain ⟨W1, hW1⟩ : ∃ W1, W1 = w.alloc (.cells tok000.toArray 73) := ⟨_, rfl⟩
  have HW1 := veil hW1
  rw [← hW1] at hb1 hB1 hz1 hra hrb
  clear hW1
  have hbY := below1 W1 (.cells ys.toArray 25)
  have hBY := Blk.new W1 ys 25
  have hraY := range_below hra hbY (by omega)
  go_enter Tryz.func35, Tryz.ntmps35
  go_upto_region 1 with fail
  rw [show w.alloc (.cells #[Value.int IntKind.i64 0, Value.int IntKind.i64 0, Value.int IntKind.i64 0] 73) = W1 from HW1.out.symm]
  go_upto_region 2 with (first
    | (refine wpList_load_mid rfl 25 (.tmp 12) rfl T 17 rfl ys _ (by simpa using hrb) Tryz.underlying25 rfl (by rw [H17b.out]; exact info_tab) ?_)
    | (refine wpList_store_newQ W1 (w.heap.size + 1) hz1 rfl 25 (.tmp 6) (.tmp 13) rfl _ ys rfl rfl (by rw [H17b.out]; exact info_tab) (by rw [H17b.out]; rfl) o17b ?_)
    | fail)
  obtain ⟨W2, hW2⟩ : ∃ W2, W2 = W1.alloc (.cells ys.toArray 25) := ⟨_, rfl⟩
  rw [← hW2] at hbY hBY hraY ⊢
  have hz2 : W2.heap.size = W1.heap.size + 1 := by rw [hW2]; simp
  clear hW2
  rw [hz1] at hBY
  go_upto_region 4 with (first
    | (refine wpList_load_mid rfl 25 (.tmp 15) rfl T 0 rfl xs _ hraY Tryz.underlying25 rfl (by rw [H17.out]; exact info_tab) ?_)
    | (refine wpList_store_blk W2 rfl 25 (.tmp 6) (.tmp 16) rfl (w.heap.size + 1) ys xs 25 hBY rfl rfl (by rw [H17.out]; exact info_tab) (by rw [H17.out, H17b.out]) o17 ?_; intro W3 hB3 hg3)
    | fail)
  have hb23 : Below W1.heap.size W2 W3 := (Below.refl _ _).grown hg3 (by omega) (fun j hj => by injection hj with hj; omega)
  have hbw3 : Below w.heap.size w W3 := (hb1.trans (hbY.mono (by omega))).trans (hb23.mono (by omega))
  have hz3 := hb23.size
  have hX3 := HSX.out.below hbw3 hgz
  have hXc := hX3.cell (i := 0) (v := .string (txt s)) rfl
  have hB3r := hB3.range
  have HCall := veil (HSy.out W3 (HSA.out.below hbw3 hG) (by omega))
  have hTok3 := (hB1.below hbY (by omega)).below hb23 (by omega)
  have Htok := veil hTok3
  clear hXc hX3 hTok3
  have hXc := (HSX.out.below hbw3 hgz).cell (i := 0) (v := .string (txt s)) rfl
  clear hra hrb hraY hBY hb23 hbY hb1 hB1
  go_wp2_with (first
    | (refine wpList_load_mid rfl 25 (.tmp 6) rfl (w.heap.size + 1) 0 rfl xs _ hB3r Tryz.underlying25 rfl (by rw [H17.out]; exact info_tab) ?_)
    | fail)
  refine HCall.out.mono ?_
  rintro e w4 ⟨rfl, hb4⟩
  have hz4 := hb4.size
  have hbw4 := hbw3.trans (hb4.mono (by omega))
  have HT4 := Htok.out.below hb4 (by omega)
  have hgr4 := grown_below (World.grownBy.refl w (some g)) hbw4 (Nat.le_refl _)
  have Hg4 := veil hgr4
  have HT4 := veil HT4
  have HX4 := veil (HSX.out.below hbw4 hgz)
  have hbw4' := veil hbw4
  have hz14 : w.heap.size + 1 ≤ w4.heap.size := by omega
  clear HCall hB3r hB3 Htok HSy hXc hb4 hbw3 hgr4 hbw4 hg3 o17 o17b
  by_cases hE : nextE ws s = 0
  · have hnr := Hnr.out hE
    rw [hE, hnr]
    have e2 := E2.out hE
    have e3 := E3.out hE
    have e4 := E4.out hE
    clear E2 E3 E4
    have E2 := veil e2
    have E3 := veil e3
    have E4 := veil e4
    clear e2 e3 e4
    obtain ⟨hS0, hS1⟩ := HSbd.out
    have hLs := HL.out
    have hSn := HSn.out
    clear E1 hnr Hnr HSbd HL HSn hE
    generalize nextS ws s = sy at *
    generalize nextL ws s = L at *
    obtain ⟨Rr, hRr⟩ : ∃ Rr, Rr = s.drop L := ⟨_, rfl⟩
    rw [← hRr] at E3 E4 ⊢
    have hRl : Rr.length ≤ N := by rw [hRr, List.length_drop]; omega
    clear hRr
    obtain ⟨P, hP⟩ : ∃ P : Nat, sy = (P : Int) := ⟨sy.toNat, by omega⟩
    subst hP
    have e2 : 12 < (P : Int) ∨ true = false ∧ 11 < (P : Int) → st = Sum.inl 4 := E2.out
    have e3 : ¬ (12 < (P : Int) ∨ true = false ∧ 11 < (P : Int)) → Rr.length < P → st = Sum.inl 3 := E3.out
    have e4 : ¬ (12 < (P : Int) ∨ true = false ∧ 11 < (P : Int)) → ¬ Rr.length < P → st = Sum.inr (((P : Int), (P : Int), ((valB (Rr.take P) : Nat) : Int)), Rr.drop P) := E4.out
    clear E2 E3 E4
    have E2 := veil e2
    have E3 := veil e3
    have E4 := veil e4
    clear e2 e3 e4
    have hsz : (txt Rr).size = Rr.length := txt_size Rr
    by_cases hw : 12 < (P : Int)
    · have hst := E2.out (by first | exact .inl hw | exact .inr ⟨trivial, hw⟩)
      have Hst := veil hst
      clear hst E2 E3 E4
      go_wp2_with (first
        | (refine wpList_store_blk w4 rfl 73 (.tmp 4) (.tmp 42) rfl w.heap.size tok000 tok000 73 HT4.out rfl rfl info_tokR rfl tok000_one ?_; intro w5 HB5 hg5)
        | fail)
      all_goals exact segNext_err Hst.out rfl rfl rfl HB5 (grown_grown Hg4.out hg5 (Nat.le_refl _))
    · have hnw : ¬ (12 < (P : Int) ∨ (true = false ∧ 11 < (P : Int))) := fun h => h.elim hw (fun h => by cases h.1)
      have e3 := E3.out hnw
      have e4 := E4.out hnw
      clear E3 E4
      have E3 := veil e3
      have E4 := veil e4
      clear e3 e4
      have hP12 : P ≤ 12 := by omega
      clear hnw E2
      by_cases hsh : Rr.length < P
      · have Hst := veil (E3.out hsh)
        have hshz : (Rr.length : Int) < (P : Int) := by omega
        clear E3 E4
        generalize txt Rr = tx at *
        go_wp2_with (first
          | (refine wpList_store_blk w4 rfl 73 (.tmp 4) (.tmp 47) rfl w.heap.size tok000 tok000 73 HT4.out rfl rfl info_tokR rfl tok000_one ?_; intro w5 HB5 hg5)
          | fail)
        exact segNext_err Hst.out rfl rfl rfl HB5 (grown_grown Hg4.out hg5 (Nat.le_refl _))
      · have Hst := veil (E4.out hsh)
        have hshz : ¬ (Rr.length : Int) < (P : Int) := by omega
        have hcutA : ∀ w, (Instr.slice 9 (.string (txt Rr)) none (some (.int .i64 (P : Int))) none).run Tryz.prog w = .ok (.string (txt (Rr.take P))) w := by
          intro w
          rw [run_slice_string_to_if w 9 (txt Rr) .i64 _ Tryz.underlying9, if_pos ⟨by omega, by rw [hsz]; omega⟩, Int.toNat_natCast, txt_extract]
          simp
        have hcutB : ∀ w, (Instr.slice 9 (.string (txt Rr)) (some (.int .i64 (P : Int))) none none).run Tryz.prog w = .ok (.string (txt (Rr.drop P))) w := by
          intro w
          rw [run_slice_string_from_if w 9 (txt Rr) .i64 _ Tryz.underlying9, if_pos ⟨by omega, by rw [hsz]; omega⟩, Int.toNat_natCast, hsz, txt_extract]
          rw [List.take_of_length_le (by simp)]
        have hfb := fromBinary_any (Rr.take P) w4 (by rw [List.length_take]; omega)
        have hvb := valB_lt (Rr.take P)
        have hv2 : 2 ^ (Rr.take P).length ≤ 2 ^ 24 := two_pow_lt _ _ (by simp; omega)
        have hvs : (valB (Rr.take P) : Int) ≤ 16777216 := by omega
        clear hvb hv2
        have Hfb := veil hfb
        obtain ⟨v, hv⟩ : ∃ v, v = valB (Rr.take P) := ⟨_, rfl⟩
        rw [← hv] at Hst Hfb hvs
        have hdl : (Rr.drop P).length ≤ N := by rw [List.length_drop]; omega
        have Hdl := veil hdl
        obtain ⟨R2, hR2⟩ : ∃ R2, R2 = Rr.drop P := ⟨_, rfl⟩
        rw [← hR2] at Hst hcutB Hdl
        generalize txt (Rr.take P) = ta at *
        obtain ⟨tb, htb⟩ : ∃ tb, tb = txt R2 := ⟨_, rfl⟩
        rw [← htb] at hcutB
        have Htb := veil htb
        clear hfb E3 E4 hv hR2 htb hdl
        generalize txt Rr = tx at *
        go_wp2_with fail
        refine Hfb.out.mono ?_
        rintro e w5 ⟨rfl, hb5⟩
        have HX5 := HX4.out.below hb5 (by omega)
        have hX5c := HX5.cell (i := 0) (v := .string (txt s)) rfl
        have hX5f := HX5.frozen 0
        have HT5 := (HT4.out.below hb5 (by omega)).kept (grown_setCell w5 g 0 (.string tb)) (fun e => by injection e with e; omega)
        have HX6 := HX5.set 0 (.string tb)
        have hb5w := hbw4'.out.trans (hb5.mono (by omega))
        have Hg6 := veil (grown_grown' (grown_below (World.grownBy.refl w (some g)) hb5w (Nat.le_refl _)) (grown_setCell w5 g 0 (.string tb)))
        have HZ6 := veil ((HST.out.below hb5w hTz).kept (grown_setCell w5 g 0 (.string tb)) (fun e => by injection e with e; exact hTg e))
        have HA6 := veil (((HSA.out.below hb5w hG)).grown (grown_setCell w5 g 0 (.string tb)) hGg (Nat.le_trans hG hb5w.size))
        have HB6 := veil (((HSB.out.below hb5w hG)).grown (grown_setCell w5 g 0 (.string tb)) hGg (Nat.le_trans hG hb5w.size))
        have HX6 := veil HX6
        have HT5 := veil HT5
        have hgt : g < w.heap.size := hgz
        have hszw5 : w.heap.size ≤ w5.heap.size := hb5w.size
        clear HX5 hb5w hb5 Hfb HT4 HX4 hbw4'
        go_wp2_with (first
          | (refine wpList_store_blk (w5.setCell ⟨g, 0, none⟩ (.string tb)) rfl 73 (.tmp 4) (.tmp 58) rfl w.heap.size tok000 [.int .i64 (P : Int), .int .i64 (P : Int), .int .i64 (v : Int)] 73 HT5.out rfl rfl info_tokR rfl (tokw_one _ _ _) ?_; intro w7 HB7 hg7)
          | fail)
        have hkz : w.heap.size ≤ (w5.setCell ⟨g, 0, none⟩ (.string tb)).heap.size := Hg6.out.size
        refine segNext_ok Hst.out rfl rfl rfl rfl HB7 (grown_grown Hg6.out hg7 (Nat.le_refl _)) (HR.out w7 R2 (HZ6.out.kept hg7 (fun e => by injection e with e; omega)) ?_ (HA6.out.grown hg7 hG (by omega)) (HB6.out.grown hg7 hG (by omega)) Hdl.out)
        have := HX6.out.kept hg7 (fun e => by injection e with e; omega)
        rw [Htb.out] at this
        exact this
  · have Hst := veil (E1.out hE)
    have hne : (nextE ws s != 0) = true := by simpa using hE
    clear E1 E2 E3 E4 hE Hnr
    generalize nextE ws s = ne at *
    generalize nextS ws s = sy at *
    generalize txt (nextR ws s) = tx at *
    go_wp2_with (first
      | (refine wpList_store_blk w4 rfl 73 (.tmp 4) (.tmp 26) rfl w.heap.size tok000 tok000 73 HT4.out rfl rfl info_tokR rfl tok000_one ?_; intro w5 HB5 hg5)
      | fail)
    exact segNext_err Hst.out rfl rfl rfl HB5 (grown_grown Hg4.out hg5 (Nat.le_refl _))
set_option maxRecDepth 100000 in
set_option maxHeartbeats 1000000 in
theorem segNext_rest (cs syms : List Int) (A : Option Addr) (c : Nat) (cs2 syms2 : List Int) (A2 : Option Addr) (c2 G T g N : Nat) (s : List Bool) (w : World)
    (hcs : cs.length = 16) (hcs2 : cs2.length = 16) (h1 : checkErr cs syms = 0) (h2 : checkErr cs2 syms2 = 0) (hN : N ≤ 140737488355328) (hTg : T ≠ g) (hG : G ≤ w.heap.size) (hGT : G ≤ T) (hGg : G ≤ g)
    (hS : SrcD cs syms A c cs2 syms2 A2 c2 G T g N w s) :
    Calls Tryz.prog 35 #[.bool false, .pointer (some ⟨T, 0, none⟩), .pointer (some ⟨g, 0, none⟩)] w fun e w' => NextPost (SrcD cs syms A c cs2 syms2 A2 c2 G T g N) g w (stepS (outWords cs syms) (outWords cs2 syms2) false s) e w' := by
  obtain ⟨ST, SX, SA, SB, SN⟩ := hS
  have hTz := ST.lt
  have hgz := SX.lt
  obtain ⟨l, hf, how, hll⟩ := fine_of h2
  have HSy := veil (fun W (h : Seen W G A2 (ints .i64 syms2)) (hG : G ≤ W.heap.size) => symOf_any cs2 syms2 l A2 c2 G s W hcs2 hf h hG (by omega))
  rw [← how] at HSy
  obtain ⟨ws, hws⟩ : ∃ ws, ws = wsOf (outWords cs syms) (outWords cs2 syms2) false := ⟨_, rfl⟩
  have hws2 : outWords cs2 syms2 = ws := hws.symm
  rw [hws2] at HSy
  have hsm : ∀ t ∈ ws, 0 ≤ t.1 ∧ t.1 ≤ 255 := by
    rw [← hws2, how]
    exact fun t ht => (hf.word hcs2 ht).1
  have hL := nextL_le (ws := ws) (b := s)
  have hSy := nextS_wf (ws := ws) (b := s) hsm
  have E1 := veil (stepR_word (fw := outWords cs syms) (rw_ := outWords cs2 syms2) (first := false) (b := s))
  have E2 := veil (stepR_wide (fw := outWords cs syms) (rw_ := outWords cs2 syms2) (first := false) (b := s))
  have E3 := veil (stepR_short (fw := outWords cs syms) (rw_ := outWords cs2 syms2) (first := false) (b := s))
  have E4 := veil (stepR_ok (fw := outWords cs syms) (rw_ := outWords cs2 syms2) (first := false) (b := s))
  have hnr := nextR_hit (ws := ws) (b := s)
  rw [← hws] at E1 E2 E3 E4
  obtain ⟨st, hst⟩ : ∃ st, st = stepS (outWords cs syms) (outWords cs2 syms2) false s := ⟨_, rfl⟩
  rw [← hst] at E1 E2 E3 E4 ⊢
  have hr0 := ST.range
  have hr1 := range_left hr0
  have hr2 := range_right hr0
  have h17 : (tabCells cs A syms.length c).length = 17 := tabCells_length hcs
  have h17b : (tabCells cs2 A2 syms2.length c2).length = 17 := tabCells_length hcs2
  have o17 := tabCells_one (cs := cs) (A := A) (n := syms.length) (c := c)
  have o17b := tabCells_one (cs := cs2) (A := A2) (n := syms2.length) (c := c2)
  rw [h17] at hr2
  have HR := veil (fun W s2 (a1 : Blk W T (tabsCells cs A syms.length c cs2 A2 syms2.length c2) 27) (a2 : Blk W g [.string (txt s2)] 9) (a3 : Seen W G A (ints .i64 syms)) (a4 : Seen W G A2 (ints .i64 syms2)) (a5 : s2.length ≤ N) => (⟨a1, a2, a3, a4, a5⟩ : SrcD cs syms A c cs2 syms2 A2 c2 G T g N W s2))
  obtain ⟨R, hR⟩ : ∃ R, R = SrcD cs syms A c cs2 syms2 A2 c2 G T g N := ⟨_, rfl⟩
  rw [← hR] at HR ⊢
  have hb1 := below1 w (.cells tok000.toArray 73)
  have hB1 := Blk.new w tok000 73
  have hz1 : (w.alloc (.cells tok000.toArray 73)).heap.size = w.heap.size + 1 := by simp
  have hra := range_below hr1 hb1 hTz
  have hrb := range_below hr2 hb1 hTz
  have hST := ST; have hSX := SX
  have Hnr := veil hnr; have HSbd := veil hSy; have HL := veil hL; have HSn := veil SN
  have H17 := veil h17; have H17b := veil h17b
  have HST := veil ST; have HSX := veil SX; have HSA := veil SA; have HSB := veil SB
  clear hr0 hr1 hr2 ST SX SA SB hws hws2 how hf hll hsm hR hst hcs hcs2 h1 h2 hST hSX hnr hSy hL SN h17 h17b
  unfold tabV at HSy
  generalize tabsCells cs A syms.length c cs2 A2 syms2.length c2 = zs at *
  generalize tabCells cs A syms.length c = xs at *
  generalize tabCells cs2 A2 syms2.length c2 = ys at *
  obtain ⟨W1, hW1⟩ : ∃ W1, W1 = w.alloc (.cells tok000.toArray 73) := ⟨_, rfl⟩
  have HW1 := veil hW1
  rw [← hW1] at hb1 hB1 hz1 hra hrb
  clear hW1
  have hbY := below1 W1 (.cells ys.toArray 25)
  have hBY := Blk.new W1 ys 25
  have hraY := range_below hra hbY (by omega)
  go_enter Tryz.func35, Tryz.ntmps35
  go_upto_region 1 with fail
  rw [show w.alloc (.cells #[Value.int IntKind.i64 0, Value.int IntKind.i64 0, Value.int IntKind.i64 0] 73) = W1 from HW1.out.symm]
  go_upto_region 2 with (first
    | (refine wpList_load_mid rfl 25 (.tmp 12) rfl T 17 rfl ys _ (by simpa using hrb) Tryz.underlying25 rfl (by rw [H17b.out]; exact info_tab) ?_)
    | (refine wpList_store_newQ W1 (w.heap.size + 1) hz1 rfl 25 (.tmp 6) (.tmp 13) rfl _ ys rfl rfl (by rw [H17b.out]; exact info_tab) (by rw [H17b.out]; rfl) o17b ?_)
    | fail)
  obtain ⟨W2, hW2⟩ : ∃ W2, W2 = W1.alloc (.cells ys.toArray 25) := ⟨_, rfl⟩
  rw [← hW2] at hbY hBY hraY ⊢
  have hz2 : W2.heap.size = W1.heap.size + 1 := by rw [hW2]; simp
  clear hW2
  rw [hz1] at hBY
  go_upto_region 4 with fail
  obtain ⟨W3, hW3⟩ : ∃ W3, W3 = W2 := ⟨_, rfl⟩
  have hB3 := hBY
  have hb23 : Below W1.heap.size W2 W3 := by rw [hW3]; exact Below.refl _ _
  rw [← hW3] at hB3 ⊢
  clear hW3
  have hbw3 : Below w.heap.size w W3 := (hb1.trans (hbY.mono (by omega))).trans (hb23.mono (by omega))
  have hz3 := hb23.size
  have hX3 := HSX.out.below hbw3 hgz
  have hXc := hX3.cell (i := 0) (v := .string (txt s)) rfl
  have hB3r := hB3.range
  have HCall := veil (HSy.out W3 (HSB.out.below hbw3 hG) (by omega))
  have hTok3 := (hB1.below hbY (by omega)).below hb23 (by omega)
  have Htok := veil hTok3
  clear hXc hX3 hTok3
  have hXc := (HSX.out.below hbw3 hgz).cell (i := 0) (v := .string (txt s)) rfl
  clear hra hrb hraY hBY hb23 hbY hb1 hB1
  go_wp2_with (first
    | (refine wpList_load_mid rfl 25 (.tmp 6) rfl (w.heap.size + 1) 0 rfl ys _ hB3r Tryz.underlying25 rfl (by rw [H17b.out]; exact info_tab) ?_)
    | fail)
  refine HCall.out.mono ?_
  rintro e w4 ⟨rfl, hb4⟩
  have hz4 := hb4.size
  have hbw4 := hbw3.trans (hb4.mono (by omega))
  have HT4 := Htok.out.below hb4 (by omega)
  have hgr4 := grown_below (World.grownBy.refl w (some g)) hbw4 (Nat.le_refl _)
  have Hg4 := veil hgr4
  have HT4 := veil HT4
  have HX4 := veil (HSX.out.below hbw4 hgz)
  have hbw4' := veil hbw4
  have hz14 : w.heap.size + 1 ≤ w4.heap.size := by omega
  clear HCall hB3r hB3 Htok HSy hXc hb4 hbw3 hgr4 hbw4 o17 o17b
  by_cases hE : nextE ws s = 0
  · have hnr := Hnr.out hE
    rw [hE, hnr]
    have e2 := E2.out hE
    have e3 := E3.out hE
    have e4 := E4.out hE
    clear E2 E3 E4
    have E2 := veil e2
    have E3 := veil e3
    have E4 := veil e4
    clear e2 e3 e4
    obtain ⟨hS0, hS1⟩ := HSbd.out
    have hLs := HL.out
    have hSn := HSn.out
    clear E1 hnr Hnr HSbd HL HSn hE
    generalize nextS ws s = sy at *
    generalize nextL ws s = L at *
    obtain ⟨Rr, hRr⟩ : ∃ Rr, Rr = s.drop L := ⟨_, rfl⟩
    rw [← hRr] at E3 E4 ⊢
    have hRl : Rr.length ≤ N := by rw [hRr, List.length_drop]; omega
    clear hRr
    obtain ⟨P, hP⟩ : ∃ P : Nat, sy % 16 = (P : Int) := ⟨(sy % 16).toNat, by omega⟩
    have hwd : widS false sy = (P : Int) := hP
    rw [hwd] at E2 E3 E4
    have e2 : 12 < (P : Int) ∨ True ∧ 11 < (P : Int) → st = Sum.inl 4 := E2.out
    have e3 : ¬ (12 < (P : Int) ∨ True ∧ 11 < (P : Int)) → Rr.length < P → st = Sum.inl 3 := E3.out
    have e4 : ¬ (12 < (P : Int) ∨ True ∧ 11 < (P : Int)) → ¬ Rr.length < P → st = Sum.inr ((sy, (P : Int), ((valB (Rr.take P) : Nat) : Int)), Rr.drop P) := E4.out
    clear E2 E3 E4
    have E2 := veil e2
    have E3 := veil e3
    have E4 := veil e4
    clear e2 e3 e4
    have hsz : (txt Rr).size = Rr.length := txt_size Rr
    by_cases hw : 11 < (P : Int)
    · have hst := E2.out (by first | exact .inl hw | exact .inr ⟨trivial, hw⟩)
      have Hst := veil hst
      clear hst E2 E3 E4
      go_wp2_with (first
        | (refine wpList_store_blk w4 rfl 73 (.tmp 4) (.tmp 42) rfl w.heap.size tok000 tok000 73 HT4.out rfl rfl info_tokR rfl tok000_one ?_; intro w5 HB5 hg5)
        | fail)
      all_goals exact segNext_err Hst.out rfl rfl rfl HB5 (grown_grown Hg4.out hg5 (Nat.le_refl _))
    · have hnw : ¬ (12 < (P : Int) ∨ (True ∧ 11 < (P : Int))) := fun h => h.elim (fun h => hw (by omega)) (fun h => hw h.2)
      have e3 := E3.out hnw
      have e4 := E4.out hnw
      clear E3 E4
      have E3 := veil e3
      have E4 := veil e4
      clear e3 e4
      have hP12 : P ≤ 12 := by omega
      clear hnw E2
      have hw12 : ¬ 12 < (P : Int) := by omega
      by_cases hsh : Rr.length < P
      · have Hst := veil (E3.out hsh)
        have hshz : (Rr.length : Int) < (P : Int) := by omega
        clear E3 E4
        generalize txt Rr = tx at *
        go_wp2_with (first
          | (refine wpList_store_blk w4 rfl 73 (.tmp 4) (.tmp 47) rfl w.heap.size tok000 tok000 73 HT4.out rfl rfl info_tokR rfl tok000_one ?_; intro w5 HB5 hg5)
          | fail)
        exact segNext_err Hst.out rfl rfl rfl HB5 (grown_grown Hg4.out hg5 (Nat.le_refl _))
      · have Hst := veil (E4.out hsh)
        have hshz : ¬ (Rr.length : Int) < (P : Int) := by omega
        have hcutA : ∀ w, (Instr.slice 9 (.string (txt Rr)) none (some (.int .i64 (P : Int))) none).run Tryz.prog w = .ok (.string (txt (Rr.take P))) w := by
          intro w
          rw [run_slice_string_to_if w 9 (txt Rr) .i64 _ Tryz.underlying9, if_pos ⟨by omega, by rw [hsz]; omega⟩, Int.toNat_natCast, txt_extract]
          simp
        have hcutB : ∀ w, (Instr.slice 9 (.string (txt Rr)) (some (.int .i64 (P : Int))) none none).run Tryz.prog w = .ok (.string (txt (Rr.drop P))) w := by
          intro w
          rw [run_slice_string_from_if w 9 (txt Rr) .i64 _ Tryz.underlying9, if_pos ⟨by omega, by rw [hsz]; omega⟩, Int.toNat_natCast, hsz, txt_extract]
          rw [List.take_of_length_le (by simp)]
        have hfb := fromBinary_any (Rr.take P) w4 (by rw [List.length_take]; omega)
        have hvb := valB_lt (Rr.take P)
        have hv2 : 2 ^ (Rr.take P).length ≤ 2 ^ 24 := two_pow_lt _ _ (by simp; omega)
        have hvs : (valB (Rr.take P) : Int) ≤ 16777216 := by omega
        clear hvb hv2
        have Hfb := veil hfb
        obtain ⟨v, hv⟩ : ∃ v, v = valB (Rr.take P) := ⟨_, rfl⟩
        rw [← hv] at Hst Hfb hvs
        have hdl : (Rr.drop P).length ≤ N := by rw [List.length_drop]; omega
        have Hdl := veil hdl
        obtain ⟨R2, hR2⟩ : ∃ R2, R2 = Rr.drop P := ⟨_, rfl⟩
        rw [← hR2] at Hst hcutB Hdl
        generalize txt (Rr.take P) = ta at *
        obtain ⟨tb, htb⟩ : ∃ tb, tb = txt R2 := ⟨_, rfl⟩
        rw [← htb] at hcutB
        have Htb := veil htb
        clear hfb E3 E4 hv hR2 htb hdl
        generalize txt Rr = tx at *
        go_wp2_with fail
        refine Hfb.out.mono ?_
        rintro e w5 ⟨rfl, hb5⟩
        have HX5 := HX4.out.below hb5 (by omega)
        have hX5c := HX5.cell (i := 0) (v := .string (txt s)) rfl
        have hX5f := HX5.frozen 0
        have HT5 := (HT4.out.below hb5 (by omega)).kept (grown_setCell w5 g 0 (.string tb)) (fun e => by injection e with e; omega)
        have HX6 := HX5.set 0 (.string tb)
        have hb5w := hbw4'.out.trans (hb5.mono (by omega))
        have Hg6 := veil (grown_grown' (grown_below (World.grownBy.refl w (some g)) hb5w (Nat.le_refl _)) (grown_setCell w5 g 0 (.string tb)))
        have HZ6 := veil ((HST.out.below hb5w hTz).kept (grown_setCell w5 g 0 (.string tb)) (fun e => by injection e with e; exact hTg e))
        have HA6 := veil (((HSA.out.below hb5w hG)).grown (grown_setCell w5 g 0 (.string tb)) hGg (Nat.le_trans hG hb5w.size))
        have HB6 := veil (((HSB.out.below hb5w hG)).grown (grown_setCell w5 g 0 (.string tb)) hGg (Nat.le_trans hG hb5w.size))
        have HX6 := veil HX6
        have HT5 := veil HT5
        have hgt : g < w.heap.size := hgz
        have hszw5 : w.heap.size ≤ w5.heap.size := hb5w.size
        clear HX5 hb5w hb5 Hfb HT4 HX4 hbw4'
        go_wp2_with (first
          | (refine wpList_store_blk (w5.setCell ⟨g, 0, none⟩ (.string tb)) rfl 73 (.tmp 4) (.tmp 58) rfl w.heap.size tok000 [.int .i64 sy, .int .i64 (P : Int), .int .i64 (v : Int)] 73 HT5.out rfl rfl info_tokR rfl (tokw_one _ _ _) ?_; intro w7 HB7 hg7)
          | fail)
        have hkz : w.heap.size ≤ (w5.setCell ⟨g, 0, none⟩ (.string tb)).heap.size := Hg6.out.size
        refine segNext_ok Hst.out rfl rfl rfl rfl HB7 (grown_grown Hg6.out hg7 (Nat.le_refl _)) (HR.out w7 R2 (HZ6.out.kept hg7 (fun e => by injection e with e; omega)) ?_ (HA6.out.grown hg7 hG (by omega)) (HB6.out.grown hg7 hG (by omega)) Hdl.out)
        have := HX6.out.kept hg7 (fun e => by injection e with e; omega)
        rw [Htb.out] at this
        exact this
  · have Hst := veil (E1.out hE)
    have hne : (nextE ws s != 0) = true := by simpa using hE
    clear E1 E2 E3 E4 hE Hnr
    generalize nextE ws s = ne at *
    generalize nextS ws s = sy at *
    generalize txt (nextR ws s) = tx at *
    go_wp2_with (first
      | (refine wpList_store_blk w4 rfl 73 (.tmp 4) (.tmp 26) rfl w.heap.size tok000 tok000 73 HT4.out rfl rfl info_tokR rfl tok000_one ?_; intro w5 HB5 hg5)
      | fail)
    exact segNext_err Hst.out rfl rfl rfl HB5 (grown_grown Hg4.out hg5 (Nat.le_refl _))
end Go.Proofs.YtddkhkpdbjjboaaGreat

/- The reference's comparison of two lists of tokens tells whether they are equal. -/
namespace Go.Proofs.YtddkhkpdbjjboaaGreat
open Go.RowKit
set_option linter.unusedVariables false
set_option linter.unusedSimpArgs false
set_option maxRecDepth 100000

set_option maxRecDepth 100000 in
set_option maxHeartbeats 1000000 in
theorem eqTok (A B : Option Addr) (c d G : Nat) (xs ys : List (Int × Int × Int)) (w : World) (hx : Seen w G A (tokCells xs)) (hy : Seen w G B (tokCells ys)) (hG : G ≤ w.heap.size) (hlx : xs.length ≤ 1099511627776) (hly : ys.length ≤ 1099511627776) :
    Calls Tryz.prog 60 #[.slice A xs.length c, .slice B ys.length d] w fun e w' => e = .returned (.bool (decide (xs = ys))) ∧ Below w.heap.size w w' := by
  by_cases hl : xs.length = ys.length
  · have hne : ((xs.length : Int) != (ys.length : Int)) = false := by simp [hl]
    have Hl := veil hl
    clear hl
    go_enter Tryz.func60, Tryz.ntmps60
    go_wp2_with fail
    go_loopg [5, 6, 14] xs.length (fun gk i0 p0 i wr => ∃ k : Nat, gk = xs.length - k ∧ k ≤ xs.length ∧ i = .int .i64 k ∧ Hid (xs.take k = ys.take k) ∧ Below w.heap.size w wr)
    case atStart => exact ⟨0, rfl, Nat.zero_le _, rfl, veil rfl, Below.refl _ _⟩
    case round =>
      obtain ⟨k, rfl, hk, rfl, He, hbel⟩ := hrel
      have hz := hbel.size
      by_cases hlt : k < xs.length
      · have hky : (k : Int) < (ys.length : Int) := by have := Hl.out; omega
        obtain ⟨g, o, s, n, m, rfl, hg, hxk, h1, h2, h3⟩ := hx.tok hlt
        obtain ⟨g', o', s', n', m', rfl, hg', hyk, h4, h5, h6⟩ := hy.tok (k := k) (by omega)
        rw [← hbel.cell (by simp; omega)] at h1 h2 h3 h4 h5 h6
        have Hx := veil hxk; have Hy := veil hyk
        clear hxk hyk hx hy
        have hbel2 := hbel.trans ((below1 wr (Obj.cells #[Value.int IntKind.i64 s, Value.int IntKind.i64 n, Value.int IntKind.i64 m] 73)).mono hz)
        rw [← (below1 wr (Obj.cells #[Value.int IntKind.i64 s, Value.int IntKind.i64 n, Value.int IntKind.i64 m] 73)).cell (by simp; omega)] at h4 h5 h6
        have c0 : (wr.alloc (Obj.cells #[Value.int IntKind.i64 s, Value.int IntKind.i64 n, Value.int IntKind.i64 m] 73)).cell? ⟨wr.heap.size, 0, none⟩ = some (.int .i64 s) := by simp
        have c1 : (wr.alloc (Obj.cells #[Value.int IntKind.i64 s, Value.int IntKind.i64 n, Value.int IntKind.i64 m] 73)).cell? ⟨wr.heap.size, 1, none⟩ = some (.int .i64 n) := by simp
        have c2 : (wr.alloc (Obj.cells #[Value.int IntKind.i64 s, Value.int IntKind.i64 n, Value.int IntKind.i64 m] 73)).cell? ⟨wr.heap.size, 2, none⟩ = some (.int .i64 m) := by simp
        have hgd : Tryz.prog.eqGuardType Tryz.prog.depth 73 = false := by kernel_rfl
        have hneq := fun w => neq_tok s n m s' n' m' w
        by_cases hq : (s, n, m) = (s', n', m')
        · have hb : (!(s == s' && (n == n' && m == m'))) = false := by
            simp only [Prod.mk.injEq] at hq
            obtain ⟨rfl, rfl, rfl⟩ := hq
            simp
          rw [hb] at hneq
          have Hq := veil hq
          clear hb hq
          go_wp2_with fail
          generalize wr.alloc (Obj.cells #[Value.int IntKind.i64 s, Value.int IntKind.i64 n, Value.int IntKind.i64 m] 73) = W at *
          go_quiet (fail)
          go_wp2
          go_roundg (xs.length - (k + 1))
          case rel => exact ⟨k + 1, rfl, by omega, by go_num, veil (by rw [take_snoc Hx.out, take_snoc Hy.out, He.out, Hq.out]), hbel2.drewN _⟩
          case measure => omega
        · have hb : (!(s == s' && (n == n' && m == m'))) = true := by
            simp only [Bool.not_eq_true', Bool.and_eq_false_iff, beq_eq_false_iff_ne]
            refine Classical.byContradiction fun h => hq ?_
            have h1 : s = s' := Classical.byContradiction fun e => h (.inl e)
            have h2 : n = n' := Classical.byContradiction fun e => h (.inr (.inl e))
            have h3 : m = m' := Classical.byContradiction fun e => h (.inr (.inr e))
            rw [h1, h2, h3]
          rw [hb] at hneq
          have Hq := veil hq
          clear hb hq
          go_wp2_with fail
          generalize wr.alloc (Obj.cells #[Value.int IntKind.i64 s, Value.int IntKind.i64 n, Value.int IntKind.i64 m] 73) = W at *
          go_quiet (fail)
          go_wp2
          go_ret
          refine ⟨ret_bool ?_, hbel2.drewN _⟩
          symm
          simp only [decide_eq_false_iff_not]
          intro e
          have h3 := Hx.out
          rw [e, Hy.out] at h3
          exact Hq.out (by injection h3 with h3; exact h3.symm)
      · go_wp2
        go_ret
        refine ⟨ret_bool ?_, hbel⟩
        symm
        have h3 := He.out
        rw [List.take_of_length_le (by omega), List.take_of_length_le (by have := Hl.out; omega)] at h3
        simpa using h3
  · have hne : ((xs.length : Int) != (ys.length : Int)) = true := by simp; omega
    have hd : decide (xs = ys) = false := by simp; intro e; exact hl (by rw [e])
    have Hd := veil hd
    clear hd hl
    go_enter Tryz.func60, Tryz.ntmps60
    go_wp2
    go_ret
    exact ⟨ret_bool Hd.out.symm, Below.refl _ _⟩
end Go.Proofs.YtddkhkpdbjjboaaGreat
