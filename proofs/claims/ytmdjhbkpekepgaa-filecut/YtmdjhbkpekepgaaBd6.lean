/- Texts shared by the claims of this seat, in one. -/
import Derived.Test.YtmdjhbkpekepgaaBd5
import Derived.Test.YtmdjhbkpekepgaaBd4
import Derived.Test.YtmdjhbkpekepgaaBd1
import Derived.Test.YtmdjhbkpekepgaaRows
import Derived.ProofKit
import Derived.OpenShut
import Derived.ChangeSame
import Derived.Deep.Slices
import Derived.SizedLaws
import Derived.ShutString
import Derived.ChangeOld
import Derived.JoinedCond
import Derived.Deep.SlicePairs
import Derived.Deep.Fields
import Derived.Lib.SmallJoins
import Derived.Test.YtmdjhbkpekepgaaBd2
import Derived.Test.YtmdjhbkpekepgaaBd3
/- file.Parse: its contract. -/
namespace Go.Proofs.Ytmdjhbkpekepgaa
open Go.RowKit
set_option linter.unusedVariables false
set_option linter.unusedSimpArgs false
set_option maxRecDepth 100000

theorem conv_any {w : World} {G : Nat} {A : Option Addr} {xs : List Int} (c : Nat) (h : Seen w G A (ints .u8 xs)) :
    (convert 30 9 (.slice A xs.length c)).run Try.prog w = .ok (.string (strOfNums xs)) w := by
  rcases A with _ | ad
  · obtain rfl : xs = [] := by
      rcases h with h | ⟨g, o, h, _⟩
      · simpa [ints] using h
      · cases h
    exact run_convert_bytes_nil w 30 5 Try.underlying30 Try.underlying5 0 c 9 Try.underlying9
  · rcases Nat.eq_zero_or_pos xs.length with h0 | h0
    · obtain rfl : xs = [] := List.length_eq_zero_iff.1 h0
      obtain ⟨b, o, e⟩ := ad
      show (convert 30 9 (.slice _ 0 c)).run Try.prog w = _
      rw [run_convert_bytes_string w 30 9 5 _ 0 c Try.underlying30 Try.underlying5 Try.underlying9]
      kernel_rfl
    · obtain ⟨g, o, x, hA, _, _, _⟩ := h.int h0
      rw [hA]
      refine run_convert_bytes_arg (P := Try.prog) w 30 5 Try.underlying30 Try.underlying5 g o xs.length c xs rfl (fun i hi => ?_) 9 Try.underlying9
      rw [hA] at h
      obtain ⟨x, hx, hc⟩ := byteAt h hi
      rw [hc, List.getD_eq_getElem?_getD, hx]; rfl
theorem magic_is {xs : List Int} (h : Bytes xs) : strOfNums xs = ⟨#[77, 90]⟩ ↔ xs = [77, 90] := by
  constructor
  · intro e
    have e2 : (strOfNums xs).data.toList = [77, 90] := by rw [e]
    rw [strOfNums_data] at e2
    have hl := congrArg List.length e2
    rw [List.length_map] at hl
    obtain ⟨a, b, rfl⟩ : ∃ a b, xs = [a, b] := by
      rcases xs with _ | ⟨a, _ | ⟨b, _ | ⟨d, l⟩⟩⟩
      · simp at hl
      · simp at hl
      · exact ⟨a, b, rfl⟩
      · simp at hl
    have ha := h a (by simp)
    have hb := h b (by simp)
    simp only [List.map_cons, List.map_nil, List.cons.injEq, and_true] at e2
    have e3 := congrArg UInt8.toNat e2.1
    have e4 := congrArg UInt8.toNat e2.2
    simp at e3 e4
    have h1 : a = 77 := by omega
    have h2 : b = 90 := by omega
    rw [h1, h2]
  · intro e; subst e; rfl
theorem fileIn_rows {bs : List Int} {A1 A2 A3 : Option Addr} {c1 c2 c3 B : Nat} {W : World} (hby : Bytes bs) (h : Owns B [byteRow (.slice A3 (readF bs).data.length c3) (readF bs).data, intRow 3 .i64 (.slice A2 (readF bs).syms2.length c2) (readF bs).syms2, intRow 3 .i64 (.slice A1 (readF bs).syms.length c1) (readF bs).syms] W) :
    FileIn (readF bs) A1 c1 A2 c2 A3 c3 W.heap.size W := by
  obtain ⟨p1, p2, p3, p4, p5⟩ := read_parts bs
  have r0 := row_in h (show intRow 3 .i64 (.slice A1 (readF bs).syms.length c1) (readF bs).syms ∈ _ from by simp)
  have r1 := row_in h (show intRow 3 .i64 (.slice A2 (readF bs).syms2.length c2) (readF bs).syms2 ∈ _ from by simp)
  have rd := row_in h (show intRow 5 .u8 (.slice A3 (readF bs).data.length c3) (readF bs).data ∈ _ from by simp [byteRow])
  have hbnd : ∀ k, ∀ x ∈ cntK bs k, -9223372036854775808 ≤ x ∧ x ≤ 9223372036854775807 := fun k x hx => by have := cntN_bnd hby 16 _ x hx; omega
  refine ⟨readF_form bs, Nat.le_trans r0.2.1 r0.2.2, r0.2.1, by rw [p3]; exact hbnd 0, r0.1, Nat.le_trans r1.2.1 r1.2.2, r1.2.1, by rw [p4]; exact hbnd 1, r1.1, ?_, Nat.le_trans rd.2.1 rd.2.2, rd.2.1, rd.1⟩
  rw [p5]; exact fun x hx => hby x (List.mem_of_mem_drop hx)
theorem parse_fine {bs : List Int} {w w' : World} {A1 A2 A3 : Option Addr} {c1 c2 c3 : Nat} (hby : Bytes bs) (he : eParse bs = 0) (h : Owns w.heap.size [byteRow (.slice A3 (readF bs).data.length c3) (readF bs).data, intRow 3 .i64 (.slice A2 (readF bs).syms2.length c2) (readF bs).syms2, intRow 3 .i64 (.slice A1 (readF bs).syms.length c1) (readF bs).syms] w') (hb : Below w.heap.size w w') :
    ParseRes bs w (.returned (.tuple #[.agg (fileCells (readF bs) A1 c1 A2 c2 A3 c3).toArray, .int .i64 0])) w' := by
  have ho : oParse bs = readF bs := by unfold oParse; rw [if_pos he]
  unfold ParseRes
  rw [ho, he]
  exact ⟨A1, c1, A2, c2, A3, c3, rfl, fileIn_rows hby h, hb, row_fresh h (show intRow 3 .i64 (.slice A1 (readF bs).syms.length c1) (readF bs).syms ∈ _ from by simp), row_fresh h (show intRow 3 .i64 (.slice A2 (readF bs).syms2.length c2) (readF bs).syms2 ∈ _ from by simp), row_fresh h (show intRow 5 .u8 (.slice A3 (readF bs).data.length c3) (readF bs).data ∈ _ from by simp [byteRow])⟩
set_option maxRecDepth 100000 in
set_option maxHeartbeats 2000000 in
theorem fileParse_any : FParseSpec := by
  intro bs A c G w hs hby hl hcap hG
  have hzv := run_zero_file
  have hb1 := below1 w (.cells noCells.toArray 32)
  have HR1 := Blk.new w noCells 32
  have hnl := info_file noCells_length
  have hz1 : (w.alloc (.cells noCells.toArray 32)).heap.size = w.heap.size + 1 := by simp
  go_enter Try.func14, Try.ntmps14
  by_cases h91 : 91000 < bs.length
  · have h91z : (91000 : Int) < (bs.length : Int) := by omega
    have he : eParse bs = 2 := if_pos h91
    go_wp2_with (first
      | (refine wpList_store_blk _ rfl 32 (.tmp 2) (.tmp 10) rfl w.heap.size noCells noCells 32 HR1 rfl rfl hnl rfl noCells_one ?_; intro w6 HB6 hg6)
      | fail)
    exact bodyPost_ret (results_row_tmp rfl _ _ w.heap.size 32 noCells.toArray (0, 0) _ (.int .i64 2) rfl rfl HB6 Try.underlying32 rfl (by simpa using hnl)) rfl (parse_bad he (by decide) (hb1.grown hg6 hb1.size (fun j hj => by injection hj with hj; omega)))
  · have h91z : ¬ (91000 : Int) < (bs.length : Int) := by omega
    obtain ⟨W0, hW0⟩ : ∃ W0, W0 = (w.alloc (.cells noCells.toArray 32)).alloc (.cells #[.slice A bs.length c, .bool false] 58) := ⟨_, rfl⟩
    have hb2 := below1 (w.alloc (.cells noCells.toArray 32)) (.cells #[.slice A bs.length c, .bool false] 58)
    have HR2 := Blk.new (w.alloc (.cells noCells.toArray 32)) [.slice A bs.length c, .bool false] 58
    have hz2 : W0.heap.size = w.heap.size + 2 := by rw [hW0]; simp
    have hbw := hb1.trans (hb2.mono (by omega))
    have HRb := HR1.below hb2 (by omega)
    rw [hz1] at HR2
    change Blk ((w.alloc (.cells noCells.toArray 32)).alloc (.cells #[.slice A bs.length c, .bool false] 58)) (w.heap.size + 1) _ _ at HR2
    rw [← hW0] at hbw HRb HR2
    obtain ⟨R, hR⟩ : ∃ R, R = w.heap.size + 1 := ⟨_, rfl⟩
    rw [← hR] at HR2
    have hrd : RdAt W0 R G bs false := ⟨by omega, hby, by omega, A, c, HR2, hs.below hbw hG, hcap⟩
    have HT := veil (take_any R G 2 bs false W0 hrd (by omega))
    have HW0 := veil hW0
    have hwR : w.heap.size < R := by omega
    have hRW : R < W0.heap.size := by omega
    have Hbw := veil hbw
    have HRb' := veil HRb
    clear hb1 HR1 hz1 hW0 hb2 HR2 hz2 hbw HRb hrd
    go_upto_region 4 with fail
    rw [← HW0.out, ← hR]
    clear HW0 hR
    go_wp2_with fail
    refine HT.out.mono ?_
    rintro e w1 ⟨A', c', rfl, hs1, hc1, hR1, hg1⟩
    have hcv := conv_any c' hs1
    have hz1 := hg1.size
    have HRb1 := veil (HRb'.out.kept hg1 (by simp; omega))
    have Hb1 := veil (Hbw.out.grown hg1 Hbw.out.size (fun j hj => by injection hj with hj; omega))
    rw [show (false || decide (bs.length < 2)) = decide (bs.length < 2) from rfl] at hR1
    have HT2 := veil (file_any R G (bs.drop 2) (decide (bs.length < 2)) w1 hR1)
    obtain ⟨str, hstr⟩ : ∃ str, str = strOfNums (bs.take 2) := ⟨_, rfl⟩
    rw [← hstr] at hcv
    have Hmag : Hid (str = ⟨#[77, 90]⟩ ↔ bs.take 2 = [77, 90]) := by show _ ↔ _; rw [hstr]; exact magic_is (hby.take' 2)
    obtain ⟨n2, hn2⟩ : ∃ n, n = (bs.take 2).length := ⟨_, rfl⟩
    rw [← hn2] at hcv ⊢
    clear hs1 hc1 hR1 hg1 HT HRb' Hbw hstr hn2
    go_wp2_with fail
    refine HT2.out.mono ?_
    rintro e w2 ⟨A1, c1, A2, c2, A3, c3, rfl, hO2, hR2, hg2⟩
    have hz2 := hg2.size
    have Hlen : Hid ((fileCells (fileR (bs.drop 2)) A1 c1 A2 c2 A3 c3).length = 103) := fileCells_length (fileR_form _) _ _ _ _ _ _
    have hone := fileCells_one (f := fileR (bs.drop 2)) (A := A1) (c := c1) (A2 := A2) (c2 := c2) (A3 := A3) (c3 := c3)
    have hb3 := below1 w2 (.cells (fileCells (fileR (bs.drop 2)) A1 c1 A2 c2 A3 c3).toArray 32)
    have hX3 := Blk.new w2 (fileCells (fileR (bs.drop 2)) A1 c1 A2 c2 A3 c3) 32
    have hO3 := (hO2.below hb3).down (show w.heap.size ≤ w1.heap.size by omega)
    have HOg : Hid (∀ x ∈ [byteRow (.slice A3 (fileR (bs.drop 2)).data.length c3) (fileR (bs.drop 2)).data, intRow 3 .i64 (.slice A2 (fileR (bs.drop 2)).syms2.length c2) (fileR (bs.drop 2)).syms2, intRow 3 .i64 (.slice A1 (fileR (bs.drop 2)).syms.length c1) (fileR (bs.drop 2)).syms], ∀ g, x.v.ownBlock = some g → w.heap.size < g) :=
      veil (fun x hx g hg => by have := ((hO2.each x hx).lt g hg).1; omega)
    have hBw3 := (Hb1.out.grown hg2 Hb1.out.size (fun j hj => by injection hj with hj; omega)).trans (hb3.mono (by omega))
    have hRb3 := (HRb1.out.kept hg2 (by simp; omega)).below hb3 (by omega)
    obtain ⟨A0, c0, hBR, _, _⟩ := (hR2.below hb3 hR2.lt).blk
    have HO3 := veil hO3; have HBw3 := veil hBw3; have HRb3 := veil hRb3; have HBR := veil hBR; have HX3 := veil hX3
    obtain ⟨xs, hxs⟩ : ∃ xs, xs = fileCells (fileR (bs.drop 2)) A1 c1 A2 c2 A3 c3 := ⟨_, rfl⟩
    unfold fileV
    rw [← hxs] at Hlen hone HO3 HBw3 HRb3 HBR HX3 ⊢
    have Hxs := veil hxs
    have hzb : (w2.alloc (.cells xs.toArray 32)).heap.size = w2.heap.size + 1 := by simp
    obtain ⟨sh, hsh⟩ : ∃ sh, sh = fshortR (decide (bs.length < 2)) (bs.drop 2) := ⟨_, rfl⟩
    rw [← hsh] at HBR
    have Hsh := veil hsh
    clear hb3 hX3 hO3 hBw3 hRb3 hBR hO2 hR2 hg2 HT2 Hb1 HRb1 hxs hsh hcv
    cases sh with
    | true =>
      have hs9 := short_of Hsh.out.symm
      have he : eParse bs = 3 := by unfold eParse; rw [if_neg h91, if_pos hs9]
      have HE := veil he
      clear hs9 he
      go_wp2_with (first
        | (refine wpList_store_new w2 rfl 32 (.tmp 6) (.tmp 15) rfl _ xs rfl rfl (info_file Hlen.out) (by rw [Hlen.out]; rfl) hone ?_; have k1 := HBR.out.cell (i := 1) (v := .bool true) rfl)
        | (refine wpList_store_blk _ rfl 32 (.tmp 2) (.tmp 18) rfl w.heap.size noCells noCells 32 HRb3.out rfl rfl hnl rfl noCells_one ?_; intro w6 HB6 hg6)
        | fail)
      exact bodyPost_ret (results_row_tmp rfl _ _ w.heap.size 32 noCells.toArray (0, 0) _ (.int .i64 3) rfl rfl HB6 Try.underlying32 rfl (by simpa using hnl)) rfl (parse_bad HE.out (by decide) (HBw3.out.grown hg6 HBw3.out.size (fun j hj => by injection hj with hj; omega)))
    | false =>
      obtain ⟨hns, hfr, h70⟩ := parts_of Hsh.out.symm
      rw [hfr] at HO3 Hxs HOg
      have HF3 := veil (fileIn_rows hby HO3.out)
      have HK := veil (fileCheck_any (readF bs) A1 c1 A2 c2 A3 c3 _ _ HF3.out (Nat.le_refl _))
      unfold fileV at HK
      rw [← Hxs.out] at HK
      have Hns := veil hns
      by_cases hm : bs.take 2 = [77, 90]
      · have hst : str = ⟨#[77, 90]⟩ := Hmag.out.2 hm
        have Hpk : Hid (packF (readF bs) = bs) := pack_read hby hns hm
        subst hst
        clear hns hfr hm Hmag
        go_wp2_with (first
          | (refine wpList_store_new w2 rfl 32 (.tmp 6) (.tmp 15) rfl _ xs rfl rfl (info_file Hlen.out) (by rw [Hlen.out]; rfl) hone ?_; have k1 := HBR.out.cell (i := 1) (v := .bool false) rfl)
          | (refine wpList_load_long rfl 32 (.tmp 6) rfl w2.heap.size 0 rfl xs _ HX3.out.range Try.underlying32 rfl (info_file Hlen.out) ?_)
          | fail)
        refine HK.out.mono ?_
        rintro e w4 ⟨rfl, hb4⟩
        have hzW : (w2.alloc (.cells xs.toArray 32)).heap.size ≤ w4.heap.size := hb4.size
        have HX4 := veil (HX3.out.below hb4 (by simp))
        have HRb4 := veil (HRb3.out.below hb4 (by simp; omega))
        have HBw4 := veil (HBw3.out.trans (hb4.mono (by simp; omega)))
        have HO4 := veil (HO3.out.below hb4)
        have HX4r := HX4.out.range
        obtain ⟨E, hE⟩ : ∃ E, E = eFile (readF bs) := ⟨_, rfl⟩
        rw [← hE]
        by_cases h0 : E = 0
        · have he := parse_good h91 Hns.out ⟨by rw [← hE]; exact h0, Hpk.out⟩
          have HE := veil he
          subst h0
          clear he hE hb4 HK HF3 HX3 HRb3 HBw3 HO3 HBR
          go_wp2_with (first
            | (refine wpList_load_mid rfl 32 (.tmp 6) rfl w2.heap.size 0 rfl xs _ HX4r Try.underlying32 rfl (info_file Hlen.out) ?_)
            | (refine wpList_store_blk _ rfl 32 (.tmp 2) (.tmp 27) rfl w.heap.size noCells xs 32 HRb4.out rfl rfl (info_file Hlen.out) (by rw [Hlen.out]; exact noCells_length.symm) hone ?_; intro w10 HB10 hg10)
            | fail)
          exact bodyPost_ret (results_row_tmp rfl _ _ w.heap.size 32 xs.toArray (0, 0) _ (.int .i64 0) rfl rfl HB10 Try.underlying32 rfl (by simpa using info_file Hlen.out)) rfl (by
            rw [Hxs.out]
            refine parse_fine hby HE.out ?_ (HBw4.out.grown hg10 HBw4.out.size (fun j hj => by injection hj with hj; omega))
            refine ⟨Nat.le_trans HO4.out.base hg10.size, fun x hx => (HO4.out.each x hx).kept hg10 ?_, HO4.out.apart⟩
            cases hv : x.v.ownBlock with
            | none => exact .inl rfl
            | some g => exact .inr fun e => by injection e with e; have := HOg.out x hx g hv; omega)
        · have he := parse_form h91 Hns.out (fun h => h0 (by rw [hE]; exact h.1))
          have HE := veil he
          have hne : (E != 0) = true := by simpa using h0
          clear he hE hb4 HK HF3 HX3 HRb3 HBw3 HO3 HBR h0
          go_wp2_with (first
            | (refine wpList_store_blk _ rfl 32 (.tmp 2) (.tmp 26) rfl w.heap.size noCells noCells 32 HRb4.out rfl rfl hnl rfl noCells_one ?_; intro w6 HB6 hg6)
            | fail)
          exact bodyPost_ret (results_row_tmp rfl _ _ w.heap.size 32 noCells.toArray (0, 0) _ (.int .i64 4) rfl rfl HB6 Try.underlying32 rfl (by simpa using hnl)) rfl (parse_bad HE.out (by decide) (HBw4.out.grown hg6 HBw4.out.size (fun j hj => by injection hj with hj; omega)))
      · have hst : ¬ str = ⟨#[77, 90]⟩ := fun h => hm (Hmag.out.1 h)
        have hst5 : (str.toList == [77, 90]) = false := by
          rw [beq_eq_false_iff_ne]
          intro h
          rw [ByteArray.toList_eq] at h
          exact hst (by rcases str with ⟨⟨l⟩⟩; simp at h; subst h; rfl)
        have he := parse_form h91 hns (fun h => hm (pack_head h.2))
        have HE := veil he
        clear hns hfr hm Hmag he
        go_wp2_with (first
          | (refine wpList_store_new w2 rfl 32 (.tmp 6) (.tmp 15) rfl _ xs rfl rfl (info_file Hlen.out) (by rw [Hlen.out]; rfl) hone ?_; have k1 := HBR.out.cell (i := 1) (v := .bool false) rfl)
          | (refine wpList_store_blk _ rfl 32 (.tmp 2) (.tmp 26) rfl w.heap.size noCells noCells 32 HRb3.out rfl rfl hnl rfl noCells_one ?_; intro w6 HB6 hg6)
          | fail)
        exact bodyPost_ret (results_row_tmp rfl _ _ w.heap.size 32 noCells.toArray (0, 0) _ (.int .i64 4) rfl rfl HB6 Try.underlying32 rfl (by simpa using hnl)) rfl (parse_bad HE.out (by decide) (HBw3.out.grown hg6 HBw3.out.size (fun j hj => by injection hj with hj; omega)))
end Go.Proofs.Ytmdjhbkpekepgaa

/- Rows of integers of one length, one behind another in memory: blocks in a slice. No program is named here. -/
namespace Go.Proofs.Ytmdjhbkpekepgaa
open Go.RowKit
set_option linter.unusedVariables false
set_option linter.unusedSimpArgs false
set_option maxRecDepth 100000

/-- Rows of integers, one behind another. -/
def rowsC (L : List (List Int)) : List Value := L.flatMap (ints .i64)
theorem rowsC_length {n : Nat} : ∀ {L : List (List Int)}, (∀ r ∈ L, r.length = n) → (rowsC L).length = L.length * n
  | [], _ => by simp [rowsC]
  | r :: L, h => by
    have h1 := rowsC_length (L := L) fun x hx => h x (List.mem_cons_of_mem _ hx)
    have h2 := h r List.mem_cons_self
    simp only [rowsC, List.flatMap_cons, List.length_append, ints_length, List.length_cons] at h1 ⊢
    rw [h1, h2, Nat.add_mul]; omega
theorem rowsC_at {n : Nat} : ∀ {L : List (List Int)}, (∀ r ∈ L, r.length = n) → ∀ {i j : Nat} {r : List Int}, L[i]? = some r → j < n → (rowsC L)[i * n + j]? = (ints .i64 r)[j]?
  | [], _, i, j, r, h, _ => by simp at h
  | s :: L, hl, 0, j, r, h, hj => by
    simp at h; subst h
    have := hl s List.mem_cons_self
    rw [rowsC, List.flatMap_cons, Nat.zero_mul, Nat.zero_add, List.getElem?_append_left (by rw [ints_length]; omega)]
  | s :: L, hl, i + 1, j, r, h, hj => by
    rw [List.getElem?_cons_succ] at h
    have h2 := hl s List.mem_cons_self
    have ih := rowsC_at (L := L) (fun x hx => hl x (List.mem_cons_of_mem _ hx)) h hj
    rw [rowsC, List.flatMap_cons, List.getElem?_append_right (by rw [ints_length, h2, Nat.add_mul]; omega), ints_length, h2, show (i + 1) * n + j - n = i * n + j by rw [Nat.add_mul]; omega]
    exact ih
/-- One row of a slice that is seen. -/
theorem Seen.row {w : World} {G n : Nat} {A : Option Addr} {L : List (List Int)} (h : Seen w G A (rowsC L)) (hl : ∀ r ∈ L, r.length = n) (hp : 0 < n) {k : Nat} (hk : k < L.length) :
    ∃ g o r, A = some ⟨g, o, none⟩ ∧ g < G ∧ L[k]? = some r ∧ r.length = n ∧ w.rangeAt g (o + k * n) (ints .i64 r) := by
  obtain ⟨r, hr⟩ := some_at hk
  have hrl := hl r (List.mem_of_getElem? hr)
  have hlt : 0 < (rowsC L).length := by rw [rowsC_length hl]; exact Nat.mul_pos (by omega) hp
  obtain ⟨g, o, e, hg, hc⟩ := h.at hlt
  refine ⟨g, o, r, e, hg, hr, hrl, fun j v hv => ?_⟩
  have hj : j < n := by have := (List.getElem?_eq_some_iff.1 hv).1; rw [ints_length] at this; omega
  have h2 := rowsC_at hl hr hj
  rw [hv] at h2
  have := hc _ _ h2
  rw [Nat.add_assoc]; exact this
end Go.Proofs.Ytmdjhbkpekepgaa

/- From the form's reading of a slice of structs or arrays of integers to the words of Mem. -/
namespace Go.Proofs.Ytmdjhbkpekepgaa
open Go.RowKit Go.ChangeShapes Go.WideShapes Go.ChangeAt Go.Deep
set_option linter.unusedVariables false
set_option linter.unusedSimpArgs false
set_option maxRecDepth 100000

section
variable {H : Type} {enc : TypeId × Value → H}
end
end Go.Proofs.Ytmdjhbkpekepgaa

/- From the form's readings of the arguments to the words of Mem: slices of integers, slices of structs of integers. -/
namespace Go.Proofs.Ytmdjhbkpekepgaa
open Go.RowKit Go.ChangeShapes Go.WideShapes Go.ChangeAt Go.Deep
set_option linter.unusedVariables false
set_option linter.unusedSimpArgs false
set_option maxRecDepth 100000

theorem own : ownKnob Try.prog.godebug = none := by kernel_rfl
theorem laidOut : laidOutB Try.prog = true := by kernel_rfl

section
variable {H : Type} {enc : TypeId × Value → H}

theorem bulk_pos (d : DataW H) : 1 ≤ Rows.uptoBulk d := by
  cases d with
  | lit l => cases l <;> simp [Rows.uptoBulk]
  | nil => simp [Rows.uptoBulk]
  | ptr d => simp [Rows.uptoBulk]
  | slice elems spare => simp [Rows.uptoBulk]
  | agg parts => simp [Rows.uptoBulk]
  | iface t d => simp [Rows.uptoBulk]
  | map entries => simp [Rows.uptoBulk]
  | held h => simp [Rows.uptoBulk]
theorem bulk_length (l : List (DataW H)) : l.length ≤ Rows.uptoBulkAll l := by
  induction l with
  | nil => simp [Rows.uptoBulkAll]
  | cons x r ih => have := bulk_pos x; simp only [Rows.uptoBulkAll, List.length_cons]; omega

/-- A slice of integers that came in. -/
theorem openInts {W : World} {t e : TypeId} {k : IntKind} {a : Option Addr} {len cap : Nat} {d : DataW H} {p : List MemPlace} {sp : Nat → Bool} {hd : Bool}
    (ht : Try.prog.underlying t = some (.slice e)) (he : Try.prog.underlying e = some (.int k)) (hc : Try.prog.cellsOf e = 1)
    (h : DataW.Trod enc Try.prog W 0 sp hd t (.slice a len cap) d p) :
    ∃ xs : List Int, len = xs.length ∧ Seen W W.heap.size a (ints k xs) ∧ (∀ x ∈ xs, (Lit.int k x).wf = true) ∧ xs.length ≤ maxLen ∧ cap ≤ maxLen ∧ xs.length ≤ cap ∧ xs.length ≤ Rows.uptoBulk d := by
  obtain ⟨fuel, hf⟩ := h
  rcases open_ints ht he hc hf with ⟨hcs, _⟩ | ⟨x, l, c, zs, hcs, _, hl, hm, hz, hx, hcell, hwz⟩
  · simp [Value.cells] at hcs
    obtain ⟨rfl, rfl, rfl⟩ := hcs
    exact ⟨[], rfl, .inl rfl, by simp, Nat.zero_le _, Nat.zero_le _, Nat.zero_le _, Nat.zero_le _⟩
  · simp [Value.cells] at hcs
    obtain ⟨rfl, rfl, rfl⟩ := hcs
    have hlz : len ≤ zs.length := by rw [hz]; split <;> omega
    simp only [Prod.mk.injEq] at hx
    refine ⟨zs.take len, by simp [Nat.min_eq_left hlz], ?_, fun x hx => hwz x (List.mem_of_mem_take hx), by simp; omega, hm, by simp; omega, ?_⟩
    · by_cases h0 : len = 0
      · subst h0; exact .inl rfl
      · have h1 := hcell 0 (by omega)
        have hsp := World.cell?_spot h1
        have hb := World.block_lt_of_cell? W _ h1
        obtain ⟨b, o, s⟩ := x
        simp [Addr.add] at hsp hb
        subst hsp
        refine .inr ⟨b, o, rfl, hb, fun j u hu => ?_⟩
        have hj : j < zs.length := by
          have := (List.getElem?_eq_some_iff.1 hu).1
          simp [ints] at this; omega
        have h2 := hcell j hj
        have h3 : (ints k (zs.take len))[j]? = some (.int k (zs.getD j 0)) := by
          have hjl : j < len := by
            have := (List.getElem?_eq_some_iff.1 hu).1
            simp [ints] at this; omega
          simp [ints, List.getElem?_take, hjl, hj]
        rw [h3] at hu
        injection hu with hu
        subst hu
        rw [← h2]
        unfold Addr.add
        split
        · rename_i e; subst e; rfl
        · rfl
    · rw [hx.1]
      simp only [Rows.uptoBulk]
      have h1 := bulk_length (lits (H := H) k (zs.take len))
      have h2 : (lits (H := H) k (zs.take len)).length = (zs.take len).length := by simp [lits]
      omega

end
end Go.Proofs.Ytmdjhbkpekepgaa

/- From the form's reading of a table that came in to its counts and its symbols. -/
namespace Go.Proofs.Ytmdjhbkpekepgaa
open Go.RowKit Go.ChangeShapes Go.WideShapes Go.ChangeAt Go.Deep
set_option linter.unusedVariables false
set_option linter.unusedSimpArgs false
set_option maxRecDepth 100000
section
variable {H : Type} {enc : TypeId × Value → H}
theorem take_drop_one {α : Type} {l : List α} {i : Nat} {x : α} (h : l[i]? = some x) : (l.drop i).take 1 = [x] := by
  obtain ⟨hi, e⟩ := List.getElem?_eq_some_iff.1 h
  rw [List.drop_eq_getElem_cons hi, e]; rfl
/-- Cells that read as an array of integers. -/
theorem openArr {W : World} {t e : TypeId} {k : IntKind} {n fuel : Nat} {l : List Value} {x : DataW H × List MemPlace} {sp : Nat → Bool} {hd : Bool}
    (ht : Try.prog.underlying t = some (.array n e)) (he : Try.prog.underlying e = some (.int k)) (hc : Try.prog.cellsOf e = 1) (hct : Try.prog.cellsOf t = n)
    (h : DataW.trod enc Try.prog W 0 sp hd fuel t l = some x) : ∃ cs : List Int, l = ints k cs ∧ cs.length = n ∧ ∀ c ∈ cs, (Lit.int k c).wf = true := by
  obtain ⟨xs, m, _, _, hl, hx, hi⟩ := DataW.trod_array ht h
  rw [hct] at hl
  rw [hc] at hi
  have each : ∀ i, i < n → ∃ c : Int, l[i]? = some (.int k c) ∧ (Lit.int k c).wf = true := by
    intro i hin
    obtain ⟨v, hv⟩ := some_at (xs := l) (j := i) (by omega)
    have h2 := hi i hin
    rw [Nat.mul_one, take_drop_one hv] at h2
    obtain ⟨y, hy⟩ := some_at (xs := xs) (j := i) (by omega)
    rw [hy] at h2
    obtain ⟨c, e0, _, w0⟩ := DataW.trod_int he h2
    simp at e0
    exact ⟨c, by rw [hv, e0], w0⟩
  obtain ⟨q, hq⟩ := choose_lt each
  refine ⟨(List.range n).map q, ?_, by simp, ?_⟩
  · apply List.ext_getElem?
    intro i
    by_cases hin : i < n
    · rw [(hq i hin).1]; simp [ints, hin]
    · rw [List.getElem?_eq_none (by omega), List.getElem?_eq_none (by simp [ints]; omega)]
  · intro c hc
    obtain ⟨i, hi', rfl⟩ := List.mem_map.1 hc
    exact (hq i (by simpa using hi')).2
end
end Go.Proofs.Ytmdjhbkpekepgaa

/- From the form's reading of two tables, and of a slice of blocks, to the words of Mem. -/
namespace Go.Proofs.Ytmdjhbkpekepgaa
open Go.RowKit Go.ChangeShapes Go.WideShapes Go.ChangeAt Go.Deep
set_option linter.unusedVariables false
set_option linter.unusedSimpArgs false
set_option maxRecDepth 100000
section
variable {H : Type} {enc : TypeId × Value → H}
theorem block_cells {W : World} {sp : Nat → Bool} {hd : Bool} (fuel : Nat) (cs : List Value) (x : DataW H × List MemPlace) (h : DataW.trod enc Try.prog W 0 sp hd fuel 23 cs = some x) : ∃ is : List Int, cs = ints .i64 is ∧ is.length = 64 ∧ ∀ c ∈ is, (Lit.int .i64 c).wf = true :=
  openArr Try.underlying23 Try.underlying3 (by kernel_rfl) (by kernel_rfl) h
theorem tab_cells {W : World} {fuel : Nat} {L : List Value} {x : DataW H × List MemPlace} {sp : Nat → Bool} {hd : Bool} (hsz : L.length = 17) (hf : DataW.trod enc Try.prog W 0 sp hd fuel 27 L = some x) :
    ∃ (cs : List Int) (A : Option Addr) (c : Nat) (syms : List Int), L = tabCells cs A syms.length c ∧ cs.length = 16 ∧ (∀ x ∈ cs, -9223372036854775808 ≤ x ∧ x ≤ 9223372036854775807) ∧ Seen W W.heap.size A (ints .i64 syms) ∧ syms.length ≤ maxLen ∧ syms.length ≤ c := by
  obtain ⟨y0, y1, n, hx, _, h0, h1⟩ := trod_struct2 Try.underlying27 hf
  have c0 : Try.prog.cellsOf 24 = 16 := by kernel_rfl
  have c1 : Try.prog.cellsOf 25 = 1 := by kernel_rfl
  rw [c0] at h0
  rw [c1] at h1
  simp only [List.drop_zero] at h0
  obtain ⟨cs, e0, hcs, hwf⟩ := openArr Try.underlying24 Try.underlying3 (by kernel_rfl) c0 h0
  obtain ⟨A, len, cap, e1⟩ := Go.Joins.slice_form Try.underlying25 h1
  rw [e1] at h1
  obtain ⟨syms, rfl, hs, hw, hl, _, hlc, hb⟩ := openInts (W := W) (a := A) (len := len) (cap := cap) (d := y1.1) (p := y1.2) Try.underlying25 Try.underlying3 (by kernel_rfl) ⟨n, h1⟩
  have e2 : L = tabCells cs A syms.length cap := by
    rw [tabCells, ← e0, ← e1, List.take_of_length_le (l := L.drop 16) (by simp; omega), List.take_append_drop]
  exact ⟨cs, A, cap, syms, e2, hcs, fun x hx => bounds_i64 (hwf x hx), hs, hl, hlc⟩
end
end Go.Proofs.Ytmdjhbkpekepgaa

/- From the form's reading of a file that came in to the words of FileMem. -/
namespace Go.Proofs.Ytmdjhbkpekepgaa
open Go.RowKit Go.ChangeShapes Go.WideShapes Go.ChangeAt Go.Deep
set_option linter.unusedVariables false
set_option linter.unusedSimpArgs false
set_option maxRecDepth 100000
section
variable {H : Type} {enc : TypeId × Value → H}
theorem tabs_cells {W : World} {fuel : Nat} {L : List Value} {x : DataW H × List MemPlace} {sp : Nat → Bool} {hd : Bool} (hsz : L.length = 34) (hf : DataW.trod enc Try.prog W 0 sp hd fuel 29 L = some x) :
    ∃ (cs : List Int) (A : Option Addr) (c : Nat) (syms : List Int) (cs2 : List Int) (A2 : Option Addr) (c2 : Nat) (syms2 : List Int), L = tabsCells cs A syms.length c cs2 A2 syms2.length c2 ∧ cs.length = 16 ∧ (∀ x ∈ cs, -9223372036854775808 ≤ x ∧ x ≤ 9223372036854775807) ∧ Seen W W.heap.size A (ints .i64 syms) ∧ syms.length ≤ maxLen ∧ syms.length ≤ c ∧
      cs2.length = 16 ∧ (∀ x ∈ cs2, -9223372036854775808 ≤ x ∧ x ≤ 9223372036854775807) ∧ Seen W W.heap.size A2 (ints .i64 syms2) ∧ syms2.length ≤ maxLen ∧ syms2.length ≤ c2 := by
  obtain ⟨y0, y1, n, hx, _, h0, h1⟩ := trod_struct2 Try.underlying29 hf
  have c0 : Try.prog.cellsOf 27 = 17 := by kernel_rfl
  rw [c0] at h0 h1
  simp only [List.drop_zero] at h0
  obtain ⟨cs, A, c, syms, e0, g1, g2, g3, g4, g5⟩ := tab_cells (by simp; omega) h0
  obtain ⟨cs2, A2, c2, syms2, e1, k1, k2, k3, k4, k5⟩ := tab_cells (by simp; omega) h1
  have e2 : L = tabsCells cs A syms.length c cs2 A2 syms2.length c2 := by
    rw [tabsCells, ← e0, ← e1, List.take_of_length_le (l := L.drop 17) (by simp; omega), List.take_append_drop]
  exact ⟨cs, A, c, syms, cs2, A2, c2, syms2, e2, g1, g2, g3, g4, g5, k1, k2, k3, k4, k5⟩
theorem cut_on (L : List Value) (a n : Nat) : L.drop a = (L.drop a).take n ++ L.drop (a + n) := by rw [← List.drop_drop, List.take_append_drop]
/-- A file that came in. -/
theorem openFile {W : World} {base : Nat} {v : Value} {d : DataW H} {p : List MemPlace} {sp : Nat → Bool} {hd : Bool} (hv : Value.okWide Try.prog W .any base 32 v) (h : DataW.Trod enc Try.prog W 0 sp hd 32 v d p) :
    ∃ (f : FileL) (A : Option Addr) (c : Nat) (A2 : Option Addr) (c2 : Nat) (A3 : Option Addr) (c3 : Nat), v = fileV f A c A2 c2 A3 c3 ∧ FileIn f A c A2 c2 A3 c3 W.heap.size W := by
  obtain ⟨cells, rfl, hsz⟩ := okWide_struct Try.underlying32 hv
  have h103 : Try.prog.cellsOf 32 = 103 := by kernel_rfl
  rw [h103] at hsz
  obtain ⟨fuel, hf⟩ := h
  obtain ⟨xs, n, _, hx, hl, hxl, hi⟩ := DataW.trod_struct Try.underlying32 hf
  obtain ⟨L⟩ := cells
  simp only [List.size_toArray] at hsz
  simp only [Value.cells] at hi
  have h0 : DataW.trod enc Try.prog W 0 sp hd n 3 ((L.drop 0).take (Try.prog.cellsOf 3)) = xs[0]? := hi 0 _ rfl
  have h1 : DataW.trod enc Try.prog W 0 sp hd n 3 ((L.drop 1).take (Try.prog.cellsOf 3)) = xs[1]? := hi 1 _ rfl
  have h2 : DataW.trod enc Try.prog W 0 sp hd n 3 ((L.drop 2).take (Try.prog.cellsOf 3)) = xs[2]? := hi 2 _ rfl
  have h3 : DataW.trod enc Try.prog W 0 sp hd n 23 ((L.drop 3).take (Try.prog.cellsOf 23)) = xs[3]? := hi 3 _ rfl
  have h4 : DataW.trod enc Try.prog W 0 sp hd n 29 ((L.drop 67).take (Try.prog.cellsOf 29)) = xs[4]? := hi 4 _ rfl
  have h5 : DataW.trod enc Try.prog W 0 sp hd n 3 ((L.drop 101).take (Try.prog.cellsOf 3)) = xs[5]? := hi 5 _ rfl
  have h6 : DataW.trod enc Try.prog W 0 sp hd n 30 ((L.drop 102).take (Try.prog.cellsOf 30)) = xs[6]? := hi 6 _ rfl
  have hx7 : xs.length = 7 := hxl
  obtain ⟨y0, e0⟩ := some_at (xs := xs) (j := 0) (by omega)
  obtain ⟨y1, e1⟩ := some_at (xs := xs) (j := 1) (by omega)
  obtain ⟨y2, e2⟩ := some_at (xs := xs) (j := 2) (by omega)
  obtain ⟨y3, e3⟩ := some_at (xs := xs) (j := 3) (by omega)
  obtain ⟨y4, e4⟩ := some_at (xs := xs) (j := 4) (by omega)
  obtain ⟨y5, e5⟩ := some_at (xs := xs) (j := 5) (by omega)
  obtain ⟨y6, e6⟩ := some_at (xs := xs) (j := 6) (by omega)
  have c1 : Try.prog.cellsOf 3 = 1 := by kernel_rfl
  have c64 : Try.prog.cellsOf 23 = 64 := by kernel_rfl
  have c34 : Try.prog.cellsOf 29 = 34 := by kernel_rfl
  have cb : Try.prog.cellsOf 30 = 1 := by kernel_rfl
  rw [e0] at h0; rw [e1] at h1; rw [e2] at h2; rw [e3] at h3; rw [e4] at h4; rw [e5] at h5; rw [e6] at h6
  rw [c1] at h0 h1 h2 h5
  rw [c64] at h3
  rw [c34] at h4
  rw [cb] at h6
  obtain ⟨wide, q0, _, _⟩ := DataW.trod_int Try.underlying3 h0
  obtain ⟨high, q1, _, _⟩ := DataW.trod_int Try.underlying3 h1
  obtain ⟨parts, q2, _, _⟩ := DataW.trod_int Try.underlying3 h2
  obtain ⟨q, q3, hq64, hqw⟩ := block_cells n _ y3 h3
  obtain ⟨cs, A, c, syms, cs2, A2, c2, syms2, q4, g1, g2, g3, g4, g5, k1, k2, k3, k4, k5⟩ := tabs_cells (by simp; omega) h4
  obtain ⟨every, q5, _, _⟩ := DataW.trod_int Try.underlying3 h5
  obtain ⟨A3, len, cap, q6⟩ := Go.Joins.slice_form Try.underlying30 h6
  rw [q6] at h6
  obtain ⟨data, rfl, hs, hw, hdl, _, hlc, hb⟩ := openInts (W := W) (a := A3) (len := len) (cap := cap) (d := y6.1) (p := y6.2) Try.underlying30 Try.underlying5 (by kernel_rfl) ⟨n, h6⟩
  have e : L = fileCells { wide := wide, high := high, parts := parts, q := q, cs := cs, syms := syms, cs2 := cs2, syms2 := syms2, every := every, data := data } A c A2 c2 A3 cap := by
    have t0 := cut_on L 0 1
    have t1 := cut_on L 1 1
    have t2 := cut_on L 2 1
    have t3 := cut_on L 3 64
    have t4 := cut_on L 67 34
    have t5 := cut_on L 101 1
    have t6 := cut_on L 102 1
    have t7 : L.drop 103 = [] := List.drop_of_length_le (by omega)
    simp only [Nat.reduceAdd, Nat.zero_add] at t0 t1 t2 t3 t4 t5 t6
    rw [q0, t1, q1, t2, q2, t3, q3, t4, q4, t5, q5, t6, q6, t7] at t0
    rw [List.drop_zero] at t0
    rw [t0]
    simp [fileCells]
  refine ⟨_, A, c, A2, c2, A3, cap, by rw [fileV, ← e], ⟨⟨hq64, g1, k1⟩, g4, g5, g2, g3, k4, k5, k2, k3, fun x hx => bounds_u8 (hw x hx), hdl, hlc, hs⟩⟩
end
end Go.Proofs.Ytmdjhbkpekepgaa
