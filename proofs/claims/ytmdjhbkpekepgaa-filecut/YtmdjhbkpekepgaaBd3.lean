/- Texts shared by the claims of this seat, in one. -/
import Derived.Test.YtmdjhbkpekepgaaBd2
import Derived.Test.YtmdjhbkpekepgaaBd1
import Derived.Test.YtmdjhbkpekepgaaRows
import Derived.BigQuiet
import Derived.Deep.LoopGhost
import Derived.Deep.Cut
/- Files as bytes, in numbers: what Check, Pack and Parse answer; there and back; what is cut off. -/
namespace Go.Proofs.Ytmdjhbkpekepgaa
open Go.RowKit
set_option linter.unusedVariables false
set_option linter.unusedSimpArgs false
set_option maxRecDepth 100000

/-- A file's parts. -/
structure FileL where
  wide : Int
  high : Int
  parts : Int
  q : List Int
  cs : List Int
  syms : List Int
  cs2 : List Int
  syms2 : List Int
  every : Int
  data : List Int
/-- Its lists have their lengths. -/
structure FileL.Form (f : FileL) : Prop where
  q : f.q.length = 64
  cs : f.cs.length = 16
  cs2 : f.cs2.length = 16
def badF (f : FileL) : Prop := f.wide < 1 ∨ 64 < f.wide ∨ f.high < 1 ∨ 64 < f.high ∨ (f.parts ≠ 1 ∧ f.parts ≠ 3) ∨ f.every < 0 ∨ 100 < f.every ∨ inB 1 255 f.q = false
instance (f : FileL) : Decidable (badF f) := by unfold badF; infer_instance
/-- What Check says. -/
def eFile (f : FileL) : Int :=
  if badF f then 1 else if eTs f.cs f.syms f.cs2 f.syms2 ≠ 0 then eTs f.cs f.syms f.cs2 f.syms2 else if 90000 < f.data.length then 2 else 0
theorem eFile_zero {f : FileL} (h : eFile f = 0) : ¬ badF f ∧ checkErr f.cs f.syms = 0 ∧ checkErr f.cs2 f.syms2 = 0 ∧ f.data.length ≤ 90000 := by
  unfold eFile at h
  split at h
  · cases h
  · rename_i h1
    split at h
    · rename_i h2; exact absurd h h2
    · rename_i h2
      split at h
      · cases h
      · have h3 : eTs f.cs f.syms f.cs2 f.syms2 = 0 := by simpa using h2
        unfold eTs at h3
        split at h3
        · rename_i h4; exact ⟨h1, h4, h3, by omega⟩
        · rename_i h4; exact absurd h3 h4
theorem eFile_of {f : FileL} (h1 : ¬ badF f) (h2 : checkErr f.cs f.syms = 0) (h3 : checkErr f.cs2 f.syms2 = 0) (h4 : f.data.length ≤ 90000) : eFile f = 0 := by
  have h5 : eTs f.cs f.syms f.cs2 f.syms2 = 0 := by unfold eTs; rw [if_pos h2, h3]
  unfold eFile
  rw [if_neg h1, if_neg (by rw [h5]; decide), if_neg (by omega)]
/-- A count in two bytes. -/
def w2s : List Int → List Int
  | [] => []
  | n :: cs => n / 256 :: n % 256 :: w2s cs
theorem w2s_length (cs : List Int) : (w2s cs).length = 2 * cs.length := by
  induction cs with
  | nil => rfl
  | cons x l ih => simp only [w2s, List.length_cons, ih]; omega
theorem w2s_app (a b : List Int) : w2s (a ++ b) = w2s a ++ w2s b := by
  induction a with
  | nil => rfl
  | cons x l ih => simp only [List.cons_append, w2s, ih]
/-- Counts out of bytes. -/
def cntN (n : Nat) (bs : List Int) : List Int := (List.range n).map fun k => 256 * bs.getD (2 * k) 0 + bs.getD (2 * k + 1) 0
theorem cntN_length (n : Nat) (bs : List Int) : (cntN n bs).length = n := by simp [cntN]
theorem cntN_w2s (cs r : List Int) : cntN cs.length (w2s cs ++ r) = cs := by
  induction cs with
  | nil => rfl
  | cons x l ih =>
    unfold cntN at ih ⊢
    rw [List.length_cons, List.range_succ_eq_map, List.map_cons, List.map_map]
    have e : ((fun k => 256 * (w2s (x :: l) ++ r).getD (2 * k) 0 + (w2s (x :: l) ++ r).getD (2 * k + 1) 0) ∘ Nat.succ) = fun k => 256 * (w2s l ++ r).getD (2 * k) 0 + (w2s l ++ r).getD (2 * k + 1) 0 := by
      funext k
      show 256 * (x / 256 :: x % 256 :: (w2s l ++ r)).getD (2 * (k + 1)) 0 + (x / 256 :: x % 256 :: (w2s l ++ r)).getD (2 * (k + 1) + 1) 0 = _
      rw [show 2 * (k + 1) = 2 * k + 1 + 1 by omega, show 2 * k + 1 + 1 + 1 = (2 * k + 1) + 1 + 1 by omega]
      simp only [List.getD_cons_succ]
    rw [e, ih]
    show (256 * (x / 256) + x % 256) :: l = x :: l
    congr 1
    omega
theorem getD_take' {l : List Int} {i k : Nat} (h : i < k) : (l.take k).getD i 0 = l.getD i 0 := by
  rw [List.getD_eq_getElem?_getD, List.getD_eq_getElem?_getD, List.getElem?_take, if_pos h]
theorem cntN_take {n k : Nat} (l : List Int) (h : 2 * n ≤ k) : cntN n (l.take k) = cntN n l := by
  unfold cntN
  refine List.map_congr_left fun i hi => ?_
  have h1 := List.mem_range.1 hi
  rw [getD_take' (by omega), getD_take' (by omega)]
/-- A table's bytes. -/
def tabB (cs syms : List Int) : List Int := w2s cs ++ syms
theorem tabB_length {cs : List Int} (syms : List Int) (h : cs.length = 16) : (tabB cs syms).length = 32 + syms.length := by rw [tabB, List.length_append, w2s_length, h]
/-- A file's bytes. -/
def headF (f : FileL) : List Int := [77, 90, f.wide, f.high, f.parts, f.every] ++ toL f.q
def packF (f : FileL) : List Int := headF f ++ (tabB f.cs f.syms ++ (tabB f.cs2 f.syms2 ++ f.data))
theorem headF_length (f : FileL) : (headF f).length = 70 := by rw [headF, List.length_append, toL, toK_length]; rfl
def topF (f : FileL) : Nat := 134 + f.syms.length + f.syms2.length
theorem packF_length {f : FileL} (h : f.Form) : (packF f).length = topF f + f.data.length := by
  rw [packF, List.length_append, List.length_append, List.length_append, headF_length, tabB_length _ h.cs, tabB_length _ h.cs2, topF]; omega
def oPack (f : FileL) : List Int := if eFile f = 0 then packF f else []

/-! ### what Parse reads -/
def n1F (bs : List Int) : Nat := (sumW (cntN 16 (bs.drop 70))).toNat
def n2F (bs : List Int) : Nat := (sumW (cntN 16 (bs.drop (102 + n1F bs)))).toNat
def shortF (bs : List Int) : Prop := bs.length < 102 ∨ bs.length < 102 + n1F bs ∨ bs.length < 134 + n1F bs ∨ bs.length < 134 + n1F bs + n2F bs
instance (bs : List Int) : Decidable (shortF bs) := by unfold shortF; infer_instance
def readF (bs : List Int) : FileL :=
  { wide := bs.getD 2 0, high := bs.getD 3 0, parts := bs.getD 4 0, q := fromL ((bs.drop 6).take 64), cs := cntN 16 (bs.drop 70), syms := (bs.drop 102).take (n1F bs),
    cs2 := cntN 16 (bs.drop (102 + n1F bs)), syms2 := (bs.drop (134 + n1F bs)).take (n2F bs), every := bs.getD 5 0, data := bs.drop (134 + n1F bs + n2F bs) }
def eParse (bs : List Int) : Int := if 91000 < bs.length then 2 else if shortF bs then 3 else if eFile (readF bs) = 0 ∧ packF (readF bs) = bs then 0 else 4
/-- No file. -/
def noF : FileL := { wide := 0, high := 0, parts := 0, q := List.replicate 64 0, cs := List.replicate 16 0, syms := [], cs2 := List.replicate 16 0, syms2 := [], every := 0, data := [] }
def oParse (bs : List Int) : FileL := if eParse bs = 0 then readF bs else noF
theorem readF_form (bs : List Int) : (readF bs).Form := ⟨fromK_length _ _, cntN_length _ _, cntN_length _ _⟩
theorem good_counts {cs syms : List Int} (h : checkErr cs syms = 0) : (sumW cs).toNat = syms.length ∧ syms.length ≤ 256 ∧ (∀ x ∈ cs, 0 ≤ x) := by
  obtain ⟨⟨h1, h2, h3⟩, _⟩ := checkErr_zero h
  exact ⟨by omega, by omega, h1⟩
theorem drop_at {a b : List Int} {n : Nat} (h : a.length = n) : (a ++ b).drop n = b := by rw [← h, List.drop_left]
theorem take_at {a b : List Int} {n : Nat} (h : a.length = n) : (a ++ b).take n = a := by rw [← h, List.take_left]
/-- What stands behind a place of what is packed. -/
theorem packF_70 (f : FileL) : (packF f).drop 70 = tabB f.cs f.syms ++ (tabB f.cs2 f.syms2 ++ f.data) := drop_at (headF_length f)
theorem packF_102 {f : FileL} (h : f.Form) : (packF f).drop 102 = f.syms ++ (tabB f.cs2 f.syms2 ++ f.data) := by
  rw [show 102 = 70 + 32 from rfl, ← List.drop_drop, packF_70, tabB, List.append_assoc]
  exact drop_at (by rw [w2s_length, h.cs])
theorem packF_t2 {f : FileL} (h : f.Form) : (packF f).drop (102 + f.syms.length) = tabB f.cs2 f.syms2 ++ f.data := by
  rw [← List.drop_drop, packF_102 h]; exact drop_at rfl
theorem packF_s2 {f : FileL} (h : f.Form) : (packF f).drop (134 + f.syms.length) = f.syms2 ++ f.data := by
  rw [show 134 + f.syms.length = 102 + f.syms.length + 32 by omega, ← List.drop_drop, packF_t2 h, tabB, List.append_assoc]
  exact drop_at (by rw [w2s_length, h.cs2])
theorem packF_data {f : FileL} (h : f.Form) : (packF f).drop (topF f) = f.data := by
  rw [topF, ← List.drop_drop, packF_s2 h]; exact drop_at rfl
theorem cnt_first {f : FileL} (h : f.Form) {k : Nat} (hk : 102 ≤ k) : cntN 16 (((packF f).take k).drop 70) = f.cs := by
  rw [List.drop_take, cntN_take _ (by omega), packF_70, tabB, List.append_assoc]
  have := cntN_w2s f.cs (f.syms ++ (tabB f.cs2 f.syms2 ++ f.data))
  rwa [h.cs] at this
theorem cnt_rest {f : FileL} (h : f.Form) {k : Nat} (hk : 134 + f.syms.length ≤ k) : cntN 16 (((packF f).take k).drop (102 + f.syms.length)) = f.cs2 := by
  rw [List.drop_take, cntN_take _ (by omega), packF_t2 h, tabB, List.append_assoc]
  have := cntN_w2s f.cs2 (f.syms2 ++ f.data)
  rwa [h.cs2] at this
/-- What is cut ahead of the data is short. -/
theorem cut_short {f : FileL} (h : f.Form) (h0 : eFile f = 0) {k : Nat} (hk : k < topF f) : shortF ((packF f).take k) := by
  obtain ⟨_, g1, g2, g3⟩ := eFile_zero h0
  have hl : ((packF f).take k).length = k := by rw [List.length_take, packF_length h]; omega
  unfold topF at hk
  unfold shortF
  rw [hl]
  by_cases k1 : k < 102
  · exact .inl k1
  · have e1 : n1F ((packF f).take k) = f.syms.length := by unfold n1F; rw [cnt_first h (by omega), (good_counts g1).1]
    rw [e1]
    by_cases k2 : k < 134 + f.syms.length
    · exact .inr (.inr (.inl k2))
    · have e2 : n2F ((packF f).take k) = f.syms2.length := by unfold n2F; rw [e1, cnt_rest h (by omega), (good_counts g2).1]
      rw [e2]
      exact .inr (.inr (.inr hk))
theorem pack_n1 {f : FileL} (h : f.Form) (h0 : eFile f = 0) : n1F (packF f) = f.syms.length := by
  obtain ⟨_, g1, g2, g3⟩ := eFile_zero h0
  have := cnt_first h (k := (packF f).length) (by rw [packF_length h, topF]; omega)
  rw [List.take_length] at this
  unfold n1F; rw [this, (good_counts g1).1]
theorem pack_n2 {f : FileL} (h : f.Form) (h0 : eFile f = 0) : n2F (packF f) = f.syms2.length := by
  obtain ⟨_, g1, g2, g3⟩ := eFile_zero h0
  have := cnt_rest h (k := (packF f).length) (by rw [packF_length h, topF]; omega)
  rw [List.take_length] at this
  unfold n2F; rw [pack_n1 h h0, this, (good_counts g2).1]
/-- What is packed is read as it was. -/
theorem read_pack {f : FileL} (h : f.Form) (h0 : eFile f = 0) : readF (packF f) = f := by
  have e1 := pack_n1 h h0
  have e2 := pack_n2 h h0
  have c1 := cnt_first h (k := (packF f).length) (by rw [packF_length h, topF]; omega)
  have c2 := cnt_rest h (k := (packF f).length) (by rw [packF_length h, topF]; omega)
  rw [List.take_length] at c1 c2
  have hq : ((packF f).drop 6).take 64 = toL f.q := by
    rw [packF, headF, List.append_assoc, drop_at (by rfl)]
    exact take_at (by rw [toL, toK_length])
  have hd := packF_data h
  rw [topF] at hd
  unfold readF
  rw [e1, e2, c1, c2, hq, from_to h.q, packF_102 h, packF_s2 h, hd, take_at rfl, take_at rfl]
  rfl
theorem pack_long {f : FileL} (h : f.Form) (h0 : eFile f = 0) : (packF f).length ≤ 90646 := by
  obtain ⟨_, g1, g2, g3⟩ := eFile_zero h0
  have := (good_counts g1).2.1
  have := (good_counts g2).2.1
  rw [packF_length h, topF]; omega
theorem parse_pack {f : FileL} (h : f.Form) (h0 : eFile f = 0) : eParse (packF f) = 0 ∧ oParse (packF f) = f := by
  have hl := pack_long h h0
  have e1 := pack_n1 h h0
  have e2 := pack_n2 h h0
  have hr := read_pack h h0
  have e : eParse (packF f) = 0 := by
    unfold eParse
    rw [if_neg (by omega), if_neg (by unfold shortF; rw [e1, e2, packF_length h, topF]; omega), if_pos (by rw [hr]; exact ⟨h0, rfl⟩)]
  exact ⟨e, by unfold oParse; rw [if_pos e, hr]⟩
/-- What is cut. -/
theorem cut_at {f : FileL} (h : f.Form) (h0 : eFile f = 0) {k : Nat} (hk : k < topF f) : eParse ((packF f).take k) = 3 := by
  have hl := pack_long h h0
  unfold eParse
  rw [if_neg (by rw [List.length_take]; omega), if_pos (cut_short h h0 hk)]
theorem pack_take {f : FileL} (h : f.Form) {k : Nat} (hk : topF f ≤ k) : (packF f).take k = packF { f with data := f.data.take (k - topF f) } := by
  have e : packF f = (headF f ++ tabB f.cs f.syms ++ tabB f.cs2 f.syms2) ++ f.data := by rw [packF]; simp only [List.append_assoc]
  have hl : (headF f ++ tabB f.cs f.syms ++ tabB f.cs2 f.syms2).length = topF f := by rw [List.length_append, List.length_append, headF_length, tabB_length _ h.cs, tabB_length _ h.cs2, topF]; omega
  have hh : headF { f with data := f.data.take (k - topF f) } = headF f := rfl
  rw [e, List.take_append, hl, List.take_of_length_le (by rw [hl]; exact hk), packF, hh]
  simp only [List.append_assoc]
theorem cut_in {f : FileL} (h : f.Form) (h0 : eFile f = 0) {k : Nat} (hk : topF f ≤ k) : eParse ((packF f).take k) = 0 ∧ oParse ((packF f).take k) = { f with data := f.data.take (k - topF f) } := by
  obtain ⟨g0, g1, g2, g3⟩ := eFile_zero h0
  rw [pack_take h hk]
  exact parse_pack ⟨h.q, h.cs, h.cs2⟩ (eFile_of g0 g1 g2 (by simp only [List.length_take]; omega))
/-- What is packed are bytes. -/
theorem packF_bytes {f : FileL} (h : f.Form) (h0 : eFile f = 0) (hd : Bytes f.data) : Bytes (packF f) := by
  obtain ⟨g0, g1, g2, g3⟩ := eFile_zero h0
  unfold badF at g0
  have hq : inB 1 255 f.q = true := by cases hh : inB 1 255 f.q; · exact absurd (by simp [hh]) g0
                                       · rfl
  have tb : ∀ {cs syms : List Int}, checkErr cs syms = 0 → Bytes (tabB cs syms) := by
    intro cs syms hc
    obtain ⟨⟨h1, h2, h3⟩, h4, _⟩ := checkErr_zero hc
    have hw : ∀ l : List Int, (∀ x ∈ l, 0 ≤ x) → sumW l ≤ 256 → Bytes (w2s l) := by
      intro l
      induction l with
      | nil => intro _ _ x hx; cases hx
      | cons y l ih =>
        intro p1 p2
        have hs : 0 ≤ sumW l := by
          clear ih p2
          induction l with
          | nil => simp [sumW]
          | cons z l ih => have := ih (fun x hx => p1 x (by simp only [List.mem_cons] at hx ⊢; rcases hx with hx | hx <;> simp [hx])); have := p1 z (by simp); simp only [sumW, List.foldr_cons] at this ih ⊢; simp only [sumW] at *; omega
        have hy := p1 y (by simp)
        have e : sumW (y :: l) = y + sumW l := rfl
        intro x hx
        simp only [w2s, List.mem_cons] at hx
        rcases hx with rfl | rfl | hx
        · omega
        · omega
        · exact ih (fun x hx => p1 x (by simp [hx])) (by omega) x hx
    intro x hx
    rcases List.mem_append.1 hx with hx | hx
    · exact hw cs h1 h2 x hx
    · exact h4 x hx
  intro x hx
  rw [packF, headF] at hx
  simp only [List.mem_append, List.mem_cons, List.not_mem_nil, or_false] at hx
  rcases hx with (((rfl | rfl | rfl | rfl | rfl | rfl) | hx) | hx | hx | hx)
  · omega
  · omega
  · omega
  · omega
  · omega
  · omega
  · obtain ⟨k, hk, e⟩ := List.mem_iff_getElem.1 hx
    have h64 : k < 64 := by rw [toL, toK_length] at hk; exact hk
    obtain ⟨⟨n, hn⟩, p1, p2⟩ := zz_at ⟨k, h64⟩
    have p3 := toL_at (cs := f.q) h64 p1
    rw [List.getElem?_eq_getElem hk, e, Option.some.injEq] at p3
    have p4 := inB_mem.1 hq (f.q.getD n 0) (List.mem_of_getElem? (getD_some (by rw [h.q]; exact hn)))
    change x = f.q.getD n 0 at p3
    rw [p3]; omega
  · exact tb g1 x hx
  · exact tb g2 x hx
  · exact hd x hx
end Go.Proofs.Ytmdjhbkpekepgaa

/- A file in one value, and in memory. -/
namespace Go.Proofs.Ytmdjhbkpekepgaa
open Go.RowKit
set_option linter.unusedVariables false
set_option linter.unusedSimpArgs false
set_option maxRecDepth 100000

/-- A file's cells: three numbers, 64, two tables, a number, a slice of bytes. -/
def fileCells (f : FileL) (A : Option Addr) (c : Nat) (A2 : Option Addr) (c2 : Nat) (A3 : Option Addr) (c3 : Nat) : List Value :=
  [.int .i64 f.wide, .int .i64 f.high, .int .i64 f.parts] ++ (ints .i64 f.q ++ (tabsCells f.cs A f.syms.length c f.cs2 A2 f.syms2.length c2 ++ [.int .i64 f.every, .slice A3 f.data.length c3]))
abbrev fileV (f : FileL) (A : Option Addr) (c : Nat) (A2 : Option Addr) (c2 : Nat) (A3 : Option Addr) (c3 : Nat) : Value := .agg (fileCells f A c A2 c2 A3 c3).toArray
/-- A file whose slices lie in memory. -/
structure FileIn (f : FileL) (A : Option Addr) (c : Nat) (A2 : Option Addr) (c2 : Nat) (A3 : Option Addr) (c3 G : Nat) (w : World) : Prop where
  form : f.Form
  max : f.syms.length ≤ maxLen
  cap : f.syms.length ≤ c
  bnd : ∀ x ∈ f.cs, -9223372036854775808 ≤ x ∧ x ≤ 9223372036854775807
  see : Seen w G A (ints .i64 f.syms)
  max2 : f.syms2.length ≤ maxLen
  cap2 : f.syms2.length ≤ c2
  bnd2 : ∀ x ∈ f.cs2, -9223372036854775808 ≤ x ∧ x ≤ 9223372036854775807
  see2 : Seen w G A2 (ints .i64 f.syms2)
  bytes : Bytes f.data
  max3 : f.data.length ≤ maxLen
  cap3 : f.data.length ≤ c3
  see3 : Seen w G A3 (ints .u8 f.data)
theorem FileIn.below {f : FileL} {A : Option Addr} {c : Nat} {A2 : Option Addr} {c2 : Nat} {A3 : Option Addr} {c3 G B : Nat} {w w' : World} (h : FileIn f A c A2 c2 A3 c3 G w) (hb : Below B w w') (hG : G ≤ B) : FileIn f A c A2 c2 A3 c3 G w' :=
  ⟨h.form, h.max, h.cap, h.bnd, h.see.below hb hG, h.max2, h.cap2, h.bnd2, h.see2.below hb hG, h.bytes, h.max3, h.cap3, h.see3.below hb hG⟩
theorem fileCells_length {f : FileL} (h : f.Form) (A : Option Addr) (c : Nat) (A2 : Option Addr) (c2 : Nat) (A3 : Option Addr) (c3 : Nat) : (fileCells f A c A2 c2 A3 c3).length = 103 := by
  unfold fileCells tabsCells
  rw [List.length_append, List.length_append, List.length_append, List.length_append, tabCells_length h.cs, tabCells_length h.cs2, ints_length, h.q]; rfl
/-- Where a file's parts lie. -/
structure FileAt (f : FileL) (A : Option Addr) (c : Nat) (A2 : Option Addr) (c2 : Nat) (A3 : Option Addr) (c3 : Nat) (w : World) (b : Nat) : Prop where
  wide : w.cell? ⟨b, 0, none⟩ = some (.int .i64 f.wide)
  high : w.cell? ⟨b, 1, none⟩ = some (.int .i64 f.high)
  parts : w.cell? ⟨b, 2, none⟩ = some (.int .i64 f.parts)
  q : w.rangeAt b 3 (ints .i64 f.q)
  tabs : w.rangeAt b 67 (tabsCells f.cs A f.syms.length c f.cs2 A2 f.syms2.length c2)
  every : w.cell? ⟨b, 101, none⟩ = some (.int .i64 f.every)
  data : w.cell? ⟨b, 102, none⟩ = some (.slice A3 f.data.length c3)
theorem fileAt_of {f : FileL} (h : f.Form) {A : Option Addr} {c : Nat} {A2 : Option Addr} {c2 : Nat} {A3 : Option Addr} {c3 : Nat} {w : World} {b : Nat} (hr : w.rangeAt b 0 (fileCells f A c A2 c2 A3 c3)) : FileAt f A c A2 c2 A3 c3 w b := by
  have r1 := range_right hr
  have r2 := range_right r1
  have r3 := range_right r2
  have e34 : (tabsCells f.cs A f.syms.length c f.cs2 A2 f.syms2.length c2).length = 34 := by unfold tabsCells; rw [List.length_append, tabCells_length h.cs, tabCells_length h.cs2]
  rw [ints_length, h.q] at r2 r3
  rw [e34] at r3
  exact ⟨hr 0 _ rfl, hr 1 _ rfl, hr 2 _ rfl, range_left r1, range_left r2, r3 0 _ rfl, r3 1 _ rfl⟩
theorem FileAt.below {f : FileL} {A : Option Addr} {c : Nat} {A2 : Option Addr} {c2 : Nat} {A3 : Option Addr} {c3 b B : Nat} {w w' : World} (h : FileAt f A c A2 c2 A3 c3 w b) (hb : Below B w w') (hB : b < B) : FileAt f A c A2 c2 A3 c3 w' b :=
  ⟨(hb.cell hB).trans h.wide, (hb.cell hB).trans h.high, (hb.cell hB).trans h.parts, range_below h.q hb hB, range_below h.tabs hb hB, (hb.cell hB).trans h.every, (hb.cell hB).trans h.data⟩
end Go.Proofs.Ytmdjhbkpekepgaa

/- Cells of a table, written. -/
namespace Go.Proofs.Ytmdjhbkpekepgaa
open Go.RowKit
set_option linter.unusedVariables false
set_option linter.unusedSimpArgs false
set_option maxRecDepth 100000

end Go.Proofs.Ytmdjhbkpekepgaa

/- A file's cells, written one by one; what Parse has read so far, in numbers. -/
namespace Go.Proofs.Ytmdjhbkpekepgaa
open Go.RowKit
set_option linter.unusedVariables false
set_option linter.unusedSimpArgs false
set_option maxRecDepth 100000

/-- One of two. -/
def sel2 {α : Type} (k : Nat) (x y : α) : α := if k = 0 then x else y
theorem ints_setF (k : IntKind) (xs : List Int) (i : Nat) (x : Int) : (ints k xs).set i (.int k x) = ints k (xs.set i x) := by simp [ints, List.map_set]
theorem set_mid {a b : List Value} {n : Nat} (i : Nat) (v : Value) (h : a.length = n) : (a ++ b).set (n + i) v = a ++ b.set i v := by
  rw [List.set_append_right _ _ (by omega), show n + i - a.length = i by omega]
theorem set_fst {a b : List Value} {i : Nat} (v : Value) (h : i < a.length) : (a ++ b).set i v = a.set i v ++ b := List.set_append_left _ _ h
/-- A file's cells, its tables' slices by their numbers. -/
def fileK (f : FileL) (a : Nat → Option Addr) (c : Nat → Nat) (A3 : Option Addr) (c3 : Nat) : List Value := fileCells f (a 0) (c 0) (a 1) (c 1) A3 c3
section
variable {f : FileL} {a : Nat → Option Addr} {c : Nat → Nat} {A3 : Option Addr} {c3 : Nat}
theorem tabs_len (h : f.Form) (A A2 : Option Addr) (n c n2 c2 : Nat) : (tabsCells f.cs A n c f.cs2 A2 n2 c2).length = 34 := by unfold tabsCells; rw [List.length_append, tabCells_length h.cs, tabCells_length h.cs2]
theorem fset_data (h : f.Form) (A' : Option Addr) (d : List Int) (c' : Nat) : (fileK f a c A3 c3).set 102 (.slice A' d.length c') = fileK { f with data := d } a c A' c' := by
  unfold fileK fileCells
  rw [show 102 = 3 + (64 + (34 + 1)) from rfl, set_mid (n := 3) _ _ rfl, set_mid (n := 64) _ _ (by rw [ints_length, h.q]), set_mid (n := 34) _ _ (tabs_len h _ _ _ _ _ _)]; rfl
theorem get_mid {a b : List Value} {n : Nat} (i : Nat) (h : a.length = n) : (a ++ b)[n + i]? = b[i]? := by rw [List.getElem?_append_right (by omega), show n + i - a.length = i by omega]
theorem fget_data (h : f.Form) : (fileK f a c A3 c3)[102]? = some (.slice A3 f.data.length c3) := by
  unfold fileK fileCells
  rw [show 102 = 3 + (64 + (34 + 1)) from rfl, get_mid (n := 3) _ rfl, get_mid (n := 64) _ (by rw [ints_length, h.q]), get_mid (n := 34) _ (tabs_len h _ _ _ _ _ _)]; rfl
end
/-! ### what is read of the tables -/
section
variable (bs : List Int)
/-- Where table k begins. -/
def atK : Nat → Nat
  | 0 => 70
  | k + 1 => atK k + 32 + (sumW (cntN 16 (bs.drop (atK k)))).toNat
def cntK (k : Nat) : List Int := cntN 16 (bs.drop (atK bs k))
def lenK (k : Nat) : Nat := (sumW (cntK bs k)).toNat
def syK (k : Nat) : List Int := (bs.drop (atK bs k + 32)).take (lenK bs k)
/-- With k tables read. -/
def stK (k : Nat) : FileL := { noF with cs := if 0 < k then cntK bs 0 else List.replicate 16 0, syms := if 0 < k then syK bs 0 else [], cs2 := if 1 < k then cntK bs 1 else List.replicate 16 0, syms2 := if 1 < k then syK bs 1 else [] }
end
theorem atK_0 (bs : List Int) : atK bs 0 = 70 := rfl
theorem atK_next (bs : List Int) (k : Nat) : atK bs (k + 1) = atK bs k + 32 + lenK bs k := rfl
theorem lenK_0 (bs : List Int) : lenK bs 0 = n1F bs := rfl
theorem atK_1 (bs : List Int) : atK bs 1 = 102 + n1F bs := rfl
theorem lenK_1 (bs : List Int) : lenK bs 1 = n2F bs := by unfold lenK cntK n2F; rw [atK_1]
theorem atK_2 (bs : List Int) : atK bs 2 = 134 + n1F bs + n2F bs := by rw [atK_next, atK_1, lenK_1]; omega
/-- Counts read so far. -/
def partC (l : List Int) (j : Nat) : List Int := l.take j ++ List.replicate (16 - j) 0
theorem partC_length {l : List Int} {j : Nat} (h : l.length = 16) (hj : j ≤ 16) : (partC l j).length = 16 := by unfold partC; rw [List.length_append, List.length_take, List.length_replicate]; omega
theorem partC_0 (l : List Int) : partC l 0 = List.replicate 16 0 := by simp [partC]
theorem partC_16 {l : List Int} (h : l.length = 16) : partC l 16 = l := by unfold partC; rw [List.take_of_length_le (by omega)]; simp
theorem partC_next {l : List Int} {j : Nat} {x : Int} (h : l[j]? = some x) (hl : l.length = 16) : (partC l j).set j x = partC l (j + 1) := by
  have hj : j < 16 := by have := (List.getElem?_eq_some_iff.1 h).1; omega
  unfold partC
  rw [List.set_append_right _ _ (by rw [List.length_take]; omega), List.length_take, Nat.min_eq_left (by omega), Nat.sub_self, take_snoc h, List.append_assoc]
  congr 1
  rw [show 16 - j = (16 - (j + 1)) + 1 by omega, List.replicate_succ]; rfl
theorem partC_at {l : List Int} {j : Nat} (hl : l.length = 16) (hj : j < 16) : (partC l j)[j]? = some 0 := by
  unfold partC
  rw [List.getElem?_append_right (by rw [List.length_take]; omega), List.length_take, Nat.min_eq_left (by omega), Nat.sub_self, List.getElem?_replicate, if_pos (by omega)]
/-- What Parse has when all is read. -/
theorem readF_is (bs : List Int) : readF bs = { stK bs 2 with wide := bs.getD 2 0, high := bs.getD 3 0, parts := bs.getD 4 0, every := bs.getD 5 0, q := fromK ((bs.drop 6).take 64) 64, data := bs.drop (atK bs 2) } := by
  unfold readF
  rw [atK_2]
  unfold stK syK
  rw [lenK_0, lenK_1, atK_1, atK_0]
  unfold cntK
  rw [atK_1, atK_0]
  simp only [fromL]
  rw [show 102 + n1F bs + 32 = 134 + n1F bs by omega]
  rfl
end Go.Proofs.Ytmdjhbkpekepgaa

/- Small laws for two appends in one statement (a region that draws its order): where each source lies, in whatever order. No program is named here. -/
namespace Go.Proofs.Ytmdjhbkpekepgaa
open Go.RowKit
set_option linter.unusedVariables false
set_option linter.unusedSimpArgs false
set_option maxRecDepth 100000

/-- A part of a slice, as the model cuts it. -/
def cutV (A : Option Addr) (f h c : Nat) : Value := .slice (if c = f then A else A.map (·.add f)) (h - f) (c - f)
theorem cutV_seen {w : World} {G c f h : Nat} {A : Option Addr} {k : IntKind} {bs : List Int} (hs : Seen w G A (ints k bs)) (hf : f ≤ h) (hh : h ≤ bs.length) (hc : h ≤ c) :
    ∃ A', cutV A f h c = .slice A' (h - f) (c - f) ∧ Seen w G A' (ints k ((bs.drop f).take (h - f))) := by
  refine ⟨_, rfl, ?_⟩
  by_cases hcf : c = f
  · have : h - f = 0 := by omega
    rw [this]; exact .inl rfl
  · rw [if_neg hcf]
    rcases hs with hs | ⟨g, o, rfl, hg, hcell⟩
    · have : bs = [] := by simpa [ints] using hs
      subst this
      exact .inl (by simp [ints])
    · refine .inr ⟨g, o + f, by simp [addr_add], hg, fun j u hu => ?_⟩
      have hj := (List.getElem?_eq_some_iff.1 hu).1
      rw [ints_length, List.length_take, List.length_drop] at hj
      have e : (ints k bs)[f + j]? = some u := by
        rw [← hu]; simp only [ints, List.getElem?_map, List.getElem?_take, List.getElem?_drop]
        rw [if_pos (by omega)]
      have := hcell _ _ e
      rw [← this]; congr 2; omega
end Go.Proofs.Ytmdjhbkpekepgaa

/- Parts of a slice of bytes. -/
namespace Go.Proofs.Ytmdjhbkpekepgaa
open Go.RowKit
set_option linter.unusedVariables false
set_option linter.unusedSimpArgs false
set_option maxRecDepth 100000

theorem run_cutB_to (A : Option Addr) (n c h : Nat) (h2 : h ≤ c) (u : World) : (Instr.sliceAt 30 (.slice A n c) none (some (.int .i64 (h : Int))) none).run Try.prog u = .ok (.slice A h c) u := by
  have he : Try.prog.underlying 30 = some (.slice (Try.prog.elem 30)) := by kernel_rfl
  have hz : (sizeOf (Try.prog.elem 30)).run Try.prog u = .ok 1 u := by kernel_rfl
  rw [run_sliceAt_slice _ _ _ _ _ _ he, run_slice_h _ _ _ _ _ he _ _ (by omega) (by omega), hz]
  simp [Result.andThen, sliced]
  intro _
  cases A with
  | none => rfl
  | some a => simp [Addr.add]
theorem run_cutB_end (A : Option Addr) (n c f : Nat) (h1 : f ≤ n) (u : World) : (Instr.sliceAt 30 (.slice A n c) (some (.int .i64 (f : Int))) none none).run Try.prog u = .ok (cutV A f n c) u := by
  have he : Try.prog.underlying 30 = some (.slice (Try.prog.elem 30)) := by kernel_rfl
  have hz : (sizeOf (Try.prog.elem 30)).run Try.prog u = .ok 1 u := by kernel_rfl
  rw [run_sliceAt_slice _ _ _ _ _ _ he, run_slice_l _ _ _ _ _ he _ _ (by omega) (by omega), hz]
  simp [Result.andThen, sliced, cutV]
theorem cutB_drop {w : World} {G c f : Nat} {A : Option Addr} {bs : List Int} (hs : Seen w G A (ints .u8 bs)) (hf : f ≤ bs.length) (hc : bs.length ≤ c) :
    ∃ A', cutV A f bs.length c = .slice A' (bs.drop f).length (c - f) ∧ Seen w G A' (ints .u8 (bs.drop f)) := by
  obtain ⟨A', h1, h2⟩ := cutV_seen hs hf (Nat.le_refl _) hc
  refine ⟨A', by rw [h1, List.length_drop], ?_⟩
  rwa [List.take_of_length_le (by simp)] at h2
theorem cutB_take {w : World} {G h : Nat} {A : Option Addr} {bs : List Int} (hs : Seen w G A (ints .u8 bs)) : Seen w G A (ints .u8 (bs.take h)) := hs.takeInts h
end Go.Proofs.Ytmdjhbkpekepgaa

/- Rows of bytes. -/
namespace Go.Proofs.Ytmdjhbkpekepgaa
open Go.RowKit
set_option linter.unusedVariables false
set_option linter.unusedSimpArgs false
set_option maxRecDepth 100000

theorem elem_byte : ElemOf Try.prog 30 5 1 1 := .mk' (z := .int .u8 0) Try.underlying30 (by kernel_rfl) rfl (by omega)
abbrev byteRow (v : Value) (l : List Int) : Row := intRow 5 .u8 v l
end Go.Proofs.Ytmdjhbkpekepgaa

/- No file; what Parse hands back; what is read, in memory. -/
namespace Go.Proofs.Ytmdjhbkpekepgaa
open Go.RowKit
set_option linter.unusedVariables false
set_option linter.unusedSimpArgs false
set_option maxRecDepth 100000

/-- No file's cells. -/
def noCells : List Value := fileK noF (fun _ => none) (fun _ => 0) none 0
theorem info_file {xs : List Value} (h : xs.length = 103) : (Try.prog.info? 32).map (·.size) = some xs.length := by rw [h]; kernel_rfl
theorem run_zero_file (u : World) : Sem.run Try.prog (zeroValue 32) u = .ok (.agg noCells.toArray) u := by kernel_rfl
theorem FileIn.up {f : FileL} {A : Option Addr} {c : Nat} {A2 : Option Addr} {c2 : Nat} {A3 : Option Addr} {c3 G G' : Nat} {w : World} (h : FileIn f A c A2 c2 A3 c3 G w) (hG : G ≤ G') : FileIn f A c A2 c2 A3 c3 G' w :=
  ⟨h.form, h.max, h.cap, h.bnd, h.see.up hG, h.max2, h.cap2, h.bnd2, h.see2.up hG, h.bytes, h.max3, h.cap3, h.see3.up hG⟩
theorem fileCells_one {f : FileL} {A : Option Addr} {c : Nat} {A2 : Option Addr} {c2 : Nat} {A3 : Option Addr} {c3 : Nat} : ∀ u ∈ fileCells f A c A2 c2 A3 c3, u.oneCell' = true := by
  intro u hu
  unfold fileCells tabsCells at hu
  simp only [List.mem_append, List.mem_cons, List.not_mem_nil, or_false] at hu
  rcases hu with (rfl | rfl | rfl) | hu | (hu | hu) | rfl | rfl
  · rfl
  · rfl
  · rfl
  · exact ints_one u hu
  · exact tabCells_one u hu
  · exact tabCells_one u hu
  · rfl
  · rfl
theorem noF_in (w : World) (G : Nat) : FileIn noF none 0 none 0 none 0 G w where
  form := ⟨rfl, rfl, rfl⟩
  max := Nat.zero_le _
  cap := Nat.le_refl _
  bnd := by intro x hx; rw [(List.mem_replicate.1 (show x ∈ List.replicate 16 (0 : Int) from hx)).2]; omega
  see := .inl rfl
  max2 := Nat.zero_le _
  cap2 := Nat.le_refl _
  bnd2 := by intro x hx; rw [(List.mem_replicate.1 (show x ∈ List.replicate 16 (0 : Int) from hx)).2]; omega
  see2 := .inl rfl
  bytes := fun x hx => by cases hx
  max3 := Nat.zero_le _
  cap3 := Nat.le_refl _
  see3 := .inl rfl
theorem noCells_length : noCells.length = 103 := fileCells_length ⟨rfl, rfl, rfl⟩ _ _ _ _ _ _
theorem noCells_one : ∀ u ∈ noCells, u.oneCell' = true := by
  intro u hu
  have h : noCells.all (fun u => u.oneCell') = true := by kernel_rfl
  exact List.all_eq_true.1 h u hu
/-- A slice of one's own. -/
def freshA (B : Nat) (A : Option Addr) : Prop := ∀ a, A = some a → B ≤ a.block
theorem fresh_none (B : Nat) : freshA B none := fun a h => by cases h
theorem row_fresh {w : World} {B : Nat} {rs : List Row} {e : TypeId} {k : IntKind} {A : Option Addr} {c : Nat} {l : List Int} (h : Owns B rs w) (hr : intRow e k (.slice A l.length c) l ∈ rs) : freshA B A := by
  obtain ⟨_, h2⟩ := h.each _ hr
  rcases h2 with h2 | ⟨g, cap, cells, hv, hB, _⟩
  · intro a ha
    have h3 : (Value.slice A l.length c) = .slice none 0 0 := h2.1
    injection h3 with h4
    rw [h4] at ha; cases ha
  · intro a ha
    have h3 : (Value.slice A l.length c) = .slice (some ⟨g, 0, none⟩) l.length cap := hv
    injection h3 with h4
    rw [h4] at ha
    injection ha with ha
    rw [← ha]; exact hB
/-- What is seen of a slice of one's own outlasts a store to what was there ahead of it. -/
theorem Seen.aside {w w' : World} {G B g : Nat} {A : Option Addr} {xs : List Value} (h : Seen w G A xs) (hf : freshA B A) (hg : w.grownBy w' (some g)) (hB : g < B) (hG : G ≤ w.heap.size) : Seen w' G A xs := by
  rcases h with h | ⟨b, o, rfl, hb, hc⟩
  · exact .inl h
  · refine .inr ⟨b, o, rfl, hb, fun i u hu => ?_⟩
    have hne : b ≠ g := by have := hf _ rfl; simp only at this; omega
    exact hg.cell (hc i u hu) (fun h => hne (by injection h))
/-- What Parse is to hand back. -/
def ParseRes (bs : List Int) (w : World) (e : Ending) (w' : World) : Prop := ∃ A1 c1 A2 c2 A3 c3, e = .returned (.tuple #[fileV (oParse bs) A1 c1 A2 c2 A3 c3, .int .i64 (eParse bs)]) ∧ FileIn (oParse bs) A1 c1 A2 c2 A3 c3 w'.heap.size w' ∧ Below w.heap.size w w' ∧ freshA w.heap.size A1 ∧ freshA w.heap.size A2 ∧ freshA w.heap.size A3
theorem parse_bad {bs : List Int} {w w' : World} {er : Int} (he : eParse bs = er) (hn : er ≠ 0) (hb : Below w.heap.size w w') : ParseRes bs w (.returned (.tuple #[.agg noCells.toArray, .int .i64 er])) w' := by
  have ho : oParse bs = noF := by unfold oParse; rw [if_neg (by rw [he]; exact hn)]
  unfold ParseRes
  rw [ho, he]
  exact ⟨none, 0, none, 0, none, 0, rfl, noF_in _ _, hb, fresh_none _, fresh_none _, fresh_none _⟩
theorem byteAt {w : World} {G gs os k : Nat} {bs : List Int} (h : Seen w G (some ⟨gs, os, none⟩) (ints .u8 bs)) (hk : k < bs.length) : ∃ x, bs[k]? = some x ∧ w.cell? ⟨gs, os + k, none⟩ = some (.int .u8 x) := by
  obtain ⟨x, hx⟩ := some_at hk
  obtain ⟨g2, o2, e4, _, hc⟩ := h.cell (ints_at hx)
  obtain ⟨rfl, rfl⟩ : gs = g2 ∧ os = o2 := by simpa using e4
  exact ⟨x, hx, hc⟩
theorem row_in {w : World} {B : Nat} {rs : List Row} {e : TypeId} {k : IntKind} {A : Option Addr} {c : Nat} {l : List Int} (h : Owns B rs w) (hr : intRow e k (.slice A l.length c) l ∈ rs) : Seen w w.heap.size A (ints k l) ∧ l.length ≤ c ∧ c ≤ maxLen := by
  obtain ⟨A2, c2, e2, hs, h1, h2⟩ := h.seen hr
  have e' : (Value.slice A l.length c) = .slice A2 l.length c2 := e2
  obtain ⟨rfl, rfl⟩ : A = A2 ∧ c = c2 := by simpa using e'
  exact ⟨hs, h1, h2⟩
theorem getD_byte {l : List Int} (h : Bytes l) (i : Nat) : 0 ≤ l.getD i 0 ∧ l.getD i 0 ≤ 255 := by
  rw [List.getD_eq_getElem?_getD]
  cases hq : l[i]? with
  | none => simp
  | some x => exact h x (List.mem_of_getElem? hq)
theorem cntN_bnd {bs : List Int} (h : Bytes bs) (n m : Nat) : ∀ x ∈ cntN n (bs.drop m), 0 ≤ x ∧ x ≤ 65535 := by
  intro x hx
  obtain ⟨k, _, rfl⟩ := List.mem_map.1 hx
  have hb : Bytes (bs.drop m) := fun y hy => h y (List.mem_of_mem_drop hy)
  have h1 := getD_byte hb (2 * k)
  have h2 := getD_byte hb (2 * k + 1)
  omega
theorem read_parts (bs : List Int) : (readF bs).syms = syK bs 0 ∧ (readF bs).syms2 = syK bs 1 ∧ (readF bs).cs = cntK bs 0 ∧ (readF bs).cs2 = cntK bs 1 ∧ (readF bs).data = bs.drop (atK bs 2) := by
  rw [readF_is]; exact ⟨rfl, rfl, rfl, rfl, rfl⟩
theorem parse_form {bs : List Int} (h : ¬ 91000 < bs.length) (h2 : ¬ shortF bs) (h3 : ¬ (eFile (readF bs) = 0 ∧ packF (readF bs) = bs)) : eParse bs = 4 := by
  unfold eParse; rw [if_neg h, if_neg h2, if_neg h3]
theorem parse_good {bs : List Int} (h : ¬ 91000 < bs.length) (h2 : ¬ shortF bs) (h3 : eFile (readF bs) = 0 ∧ packF (readF bs) = bs) : eParse bs = 0 := by
  unfold eParse; rw [if_neg h, if_neg h2, if_pos h3]
end Go.Proofs.Ytmdjhbkpekepgaa

/- What file's Check, Pack and Parse are to do, as the laws use it. -/
namespace Go.Proofs.Ytmdjhbkpekepgaa
open Go.RowKit
set_option linter.unusedVariables false
set_option linter.unusedSimpArgs false
set_option maxRecDepth 100000

/-- file.Check's contract. -/
def FCheckSpec : Prop := ∀ (f : FileL) (A : Option Addr) (c : Nat) (A2 : Option Addr) (c2 : Nat) (A3 : Option Addr) (c3 G : Nat) (w : World), FileIn f A c A2 c2 A3 c3 G w → G ≤ w.heap.size →
    Calls Try.prog 9 #[fileV f A c A2 c2 A3 c3] w fun e w' => e = .returned (.int .i64 (eFile f)) ∧ Below w.heap.size w w'
/-- file.Pack's contract. -/
def FPackSpec : Prop := ∀ (f : FileL) (A : Option Addr) (c : Nat) (A2 : Option Addr) (c2 : Nat) (A3 : Option Addr) (c3 G : Nat) (w : World), FileIn f A c A2 c2 A3 c3 G w → G ≤ w.heap.size →
    Calls Try.prog 11 #[fileV f A c A2 c2 A3 c3] w fun e w' => ∃ v, e = .returned (.tuple #[v, .int .i64 (eFile f)]) ∧ Owns w.heap.size [byteRow v (oPack f)] w' ∧ Below w.heap.size w w'
/-- file.Parse's contract. -/
def FParseSpec : Prop := ∀ (bs : List Int) (A : Option Addr) (c G : Nat) (w : World), Seen w G A (ints .u8 bs) → Bytes bs → bs.length ≤ maxLen → bs.length ≤ c → G ≤ w.heap.size →
    Calls Try.prog 14 #[.slice A bs.length c] w (ParseRes bs w)
end Go.Proofs.Ytmdjhbkpekepgaa

/- quant.Round, clamp, within, Check, checkBoth: their contracts. -/
namespace Go.Proofs.Ytmdjhbkpekepgaa
open Go.RowKit
set_option linter.unusedVariables false
set_option linter.unusedSimpArgs false
set_option maxRecDepth 100000

/-- A long load, also behind a guard that lets it run. -/
theorem wpList_load_long {P : Program} {ops : Array Oper} {rest : List Oper} {op : Oper} {a : Act} {w : World} {Q : Exit → Act → World → Prop} (hgd : Region.wanted op (yielded ops a.tmps) = true) (ty : TypeId) (x : Operand) (ho : op.op = .load ty x)
    (b o : Nat) (hx : a.eval x = .pointer (some ⟨b, o, none⟩)) (cs : List Value) (d : TypeDesc) (hc : w.rangeAt b o cs)
    (hu : P.underlying ty = some d) (hd : d.isRow = true) (hi : (P.info? ty).map (·.size) = some cs.length)
    (h : wpList P ops Q rest (a.put op.dst (.agg cs.toArray)) w) : wpList P ops Q (op :: rest) a w :=
  wpList_step fun K hK => by
    rw [if_pos hgd]
    exact wp_load_mid ty x ho b o hx cs d hc hu hd hi (hK _ _ h)
theorem inB_take {lo hi : Int} {cs : List Int} {k : Nat} {x : Int} (hx : cs[k]? = some x) (h : inB lo hi (cs.take k) = true) (h1 : lo ≤ x) (h2 : x ≤ hi) : inB lo hi (cs.take (k + 1)) = true := by
  rw [take_snoc hx]; unfold inB at *; rw [List.all_append, h]; simp [h1, h2]
theorem inB_not {lo hi : Int} {cs : List Int} {k : Nat} {x : Int} (hx : cs[k]? = some x) (h : ¬ (lo ≤ x ∧ x ≤ hi)) : badB lo hi cs = 1 := by
  unfold badB; rw [if_neg]; intro h1; exact h (inB_at h1 hx)
theorem inB_all {lo hi : Int} {cs : List Int} (hc : cs.length = 64) (h : inB lo hi (cs.take 64) = true) : badB lo hi cs = 0 := by
  rw [List.take_of_length_le (by omega)] at h; unfold badB; rw [if_pos h]
set_option maxHeartbeats 1000000 in
set_option maxRecDepth 100000 in
theorem within_any (cs : List Int) (lo hi : Int) (w : World) (hc : cs.length = 64) :
    Calls Try.prog 35 #[blkV cs, .int .i64 lo, .int .i64 hi] w fun e w' => e = .returned (.int .i64 (badB lo hi cs)) ∧ Below w.heap.size w w' := by
  have hb0 := below1 w (.cells (ints .i64 cs).toArray 23)
  have hr := range_new w (ints .i64 cs) 23
  have Hl : Hid ((ints .i64 cs).length = 64) := by show _ = _; rw [ints_length, hc]
  have Hat : Hid (∀ (k : Nat) (x : Int), cs[k]? = some x → (ints .i64 cs)[k]? = some (.int .i64 x)) := fun _ _ h => ints_at h
  obtain ⟨E, hE⟩ : ∃ E, E = badB lo hi cs := ⟨_, rfl⟩
  rw [← hE]
  have HE := veil hE; clear hE
  unfold blkV
  generalize ints .i64 cs = xs at *
  go_enter Try.func35, Try.ntmps35
  go_wp2_with (first
    | (refine wpList_load_mid rfl 23 (.tmp 3) rfl w.heap.size 0 rfl xs _ hr Try.underlying23 rfl (info_blkn Hl.out) ?_)
    | fail)
  go_loopg [10] 64 (fun gk i wr => ∃ k : Nat, gk = 64 - k ∧ k ≤ 64 ∧ i = .int .i64 (k : Int) ∧ Hid (inB lo hi (cs.take k) = true) ∧ Below w.heap.size w wr)
  case atStart => exact ⟨0, rfl, by omega, rfl, by simp [inB, Hid], hb0⟩
  case round =>
    clear hr hb0
    obtain ⟨k, rfl, hk, rfl, HI, hb⟩ := hrel
    by_cases hlt : k < 64
    · have hltz : (k : Int) < 64 := by omega
      obtain ⟨x, hx⟩ := some_at (xs := cs) (j := k) (by omega)
      have hxs := Hat.out _ _ hx
      by_cases h1 : lo ≤ x ∧ x ≤ hi
      · have h1a := h1.1
        have h1b := h1.2
        have HI2 := veil (inB_take hx HI.out h1.1 h1.2)
        clear HI hx
        go_wp2_with (first
          | (refine wpList_index_arr rfl 23 (.tmp 9) (.tmp 10) rfl 64 3 .i64 Try.underlying23 Try.underlying3 (by kernel_rfl) xs rfl .i64 k rfl (.int .i64 x) hlt hxs ?_)
          | fail)
        go_roundg (64 - (k + 1))
        case rel => exact ⟨k + 1, rfl, by omega, by go_num, HI2, hb⟩
        case measure => omega
      · have h2 := inB_not hx h1
        rw [← HE.out] at h2
        subst h2
        clear HI hx
        go_wp2_with (first
          | (refine wpList_index_arr rfl 23 (.tmp 9) (.tmp 10) rfl 64 3 .i64 Try.underlying23 Try.underlying3 (by kernel_rfl) xs rfl .i64 k rfl (.int .i64 x) hlt hxs ?_)
          | fail)
        all_goals first
          | (exfalso; omega)
          | (go_ret; exact ⟨rfl, hb⟩)
    · obtain rfl : k = 64 := by omega
      have h2 := inB_all hc HI.out
      rw [← HE.out] at h2
      subst h2
      go_wp2
      go_ret
      exact ⟨rfl, hb⟩
set_option maxHeartbeats 1000000 in
set_option maxRecDepth 100000 in
theorem qcheck_any (cs : List Int) (w : World) (hc : cs.length = 64) :
    Calls Try.prog 20 #[blkV cs] w fun e w' => e = .returned (.int .i64 (badB 1 255 cs)) ∧ Below w.heap.size w w' := by
  have hb0 := below1 w (.cells (ints .i64 cs).toArray 23)
  have hr := range_new w (ints .i64 cs) 23
  have Hl : Hid ((ints .i64 cs).length = 64) := by show _ = _; rw [ints_length, hc]
  have HC := veil (fun W => within_any cs 1 255 W hc)
  unfold blkV at *
  generalize ints .i64 cs = xs at *
  go_enter Try.func20, Try.ntmps20
  go_wp2_with (first
    | (refine wpList_load_mid rfl 23 (.tmp 1) rfl w.heap.size 0 rfl xs _ hr Try.underlying23 rfl (info_blkn Hl.out) ?_)
    | fail)
  refine (HC.out _).mono ?_
  rintro e w1 ⟨rfl, hb1⟩
  go_wp2
  go_ret
  exact ⟨rfl, hb0.trans (hb1.mono (by simp))⟩
end Go.Proofs.Ytmdjhbkpekepgaa

/- A block of one number throughout; the laws' own ones. -/
namespace Go.Proofs.Ytmdjhbkpekepgaa
open Go.RowKit
set_option linter.unusedVariables false
set_option linter.unusedSimpArgs false
set_option maxRecDepth 100000

def onesK (n : Int) (k : Nat) : List Int := mapK (fun _ _ => n) zero64 k
def onesL (n : Int) : List Int := List.replicate 64 n
theorem onesK_all (n : Int) : onesK n 64 = onesL n := by
  apply List.ext_getElem?
  intro i
  by_cases hi : i < 64
  · rw [onesK, mapK, List.getElem?_map, List.getElem?_range hi, onesL, List.getElem?_replicate, if_pos hi]; simp [hi]
  · rw [List.getElem?_eq_none (by rw [onesK, mapK_length]; omega), List.getElem?_eq_none (by simp [onesL]; omega)]
set_option maxHeartbeats 4000000 in
set_option maxRecDepth 100000 in
theorem ones_any (n : Int) (w : World) :
    Calls Try.prog 34 #[.int .i64 n] w fun e w' => e = .returned (blkV (onesL n)) ∧ Below w.heap.size w w' := by
  have HB0 := veil (Blk.new w zeroB 23)
  have hb0 := below1 w (.cells zeroB.toArray 23)
  have Hx : Hid (∀ k, k < 64 → (ints .i64 (onesK n k)).set k (.int .i64 n) = ints .i64 (onesK n (k + 1))) := by
    intro k hk
    rw [show onesK n (k + 1) = (onesK n k).set k n from mapK_next (x := 0) hk (by rw [zero64, List.getElem?_replicate, if_pos hk])]
    simp [ints, List.map_set]
  have H0 : Hid (ints .i64 (onesK n 0) = zeroB) := by show _ = _; rw [onesK, mapK_zero]; rfl
  unfold blkV
  rw [← onesK_all]
  go_enter Try.func34, Try.ntmps34
  go_wp2_with fail
  go_loopg [4] 64 (fun gk i wr => ∃ k : Nat, gk = 64 - k ∧ k ≤ 64 ∧ i = .int .i64 (k : Int) ∧ Hid (Blk wr w.heap.size (ints .i64 (onesK n k)) 23) ∧ Below w.heap.size w wr)
  case atStart => exact ⟨0, rfl, by omega, rfl, veil (by rw [H0.out]; exact HB0.out), hb0⟩
  case round =>
    clear HB0 hb0 H0
    obtain ⟨k, rfl, hk, rfl, HB, hbw⟩ := hrel
    by_cases hlt : k < 64
    · have hltz : (k : Int) < 64 := by omega
      obtain ⟨y, hy⟩ := some_at (xs := onesK n k) (j := k) (by rw [onesK, mapK_length]; omega)
      have hcx := HB.out.cell (ints_at hy)
      have hfx := HB.out.frozen k
      have HB5 : Hid (Blk (wr.setCell ⟨w.heap.size, k, none⟩ (.int .i64 n)) w.heap.size (ints .i64 (onesK n (k + 1))) 23) := by
        have := HB.out.set k (.int .i64 n)
        rw [Hx.out k hlt] at this
        exact this
      have hgr : wr.grownBy (wr.setCell ⟨w.heap.size, k, none⟩ (.int .i64 n)) (some w.heap.size) :=
        ⟨rfl, rfl, rfl, by simp [World.setCell], fun i _ hi => Below.heap_setCell _ _ _ _ (fun e => hi (by rw [e]))⟩
      have HG5 : Below w.heap.size w (wr.setCell ⟨w.heap.size, k, none⟩ (.int .i64 n)) := hbw.grown hgr hbw.size (fun j hj => by injection hj with hj; omega)
      clear HB hgr hbw hy Hx
      go_wp2_with fail
      go_roundg (64 - (k + 1))
      case rel => exact ⟨k + 1, rfl, by omega, by go_num, HB5, HG5⟩
      case measure => omega
    · obtain rfl : k = 64 := by omega
      have HBr := HB.out
      have Hlm : Hid ((ints .i64 (onesK n 64)).length = 64) := by show _ = _; rw [ints_length, onesK, mapK_length]
      have hone := ints_one (k := .i64) (l := onesK n 64)
      clear HB Hx
      obtain ⟨ms, hms⟩ : ∃ ms, ms = ints .i64 (onesK n 64) := ⟨_, rfl⟩
      rw [← hms] at HBr Hlm hone
      have HX := veil hms; clear hms
      go_wp2_with (first
        | (refine wpList_load_mid rfl 23 (.tmp 2) rfl w.heap.size 0 rfl ms _ HBr.range Try.underlying23 rfl (info_blkn Hlm.out) ?_)
        | (refine wpList_store_blk wr rfl 23 (.tmp 2) (.tmp 11) rfl w.heap.size ms ms 23 HBr rfl rfl (info_blkn Hlm.out) rfl hone ?_; intro w5 HB5 hg5)
        | fail)
      refine bodyPost_ret (v := .agg ms.toArray) (results_cell_row rfl _ _ w.heap.size 23 ms.toArray (0, 0) _ rfl HB5 Try.underlying23 rfl (by simp only [List.size_toArray]; exact info_blkn Hlm.out)) rfl ⟨by rw [HX.out], hbw.grown hg5 hbw.size (fun j hj => by injection hj with hj; omega)⟩
end Go.Proofs.Ytmdjhbkpekepgaa

/- The closed fact on file.Pack, over its contract. -/
namespace Go.Proofs.Ytmdjhbkpekepgaa
open Go.RowKit
set_option linter.unusedVariables false
set_option linter.unusedSimpArgs false
set_option maxRecDepth 100000

/-- The file of the closed fact. -/
def file1 : FileL := { noF with wide := 1, high := 1, parts := 1, q := onesL 1 }
theorem file1_form : file1.Form := ⟨by kernel_rfl, rfl, rfl⟩
theorem file1_ok : eFile file1 = 0 := by kernel_rfl
theorem file1_in (w : World) (G : Nat) : FileIn file1 none 0 none 0 none 0 G w where
  form := file1_form
  max := Nat.zero_le _
  cap := Nat.le_refl _
  bnd := (noF_in w G).bnd
  see := .inl rfl
  max2 := Nat.zero_le _
  cap2 := Nat.le_refl _
  bnd2 := (noF_in w G).bnd2
  see2 := .inl rfl
  bytes := fun x hx => by cases hx
  max3 := Nat.zero_le _
  cap3 := Nat.le_refl _
  see3 := .inl rfl
theorem file1_pack : (oPack file1).length = 134 ∧ (oPack file1)[0]? = some 77 := by
  have e : oPack file1 = packF file1 := if_pos file1_ok
  rw [e, packF_length file1_form]
  exact ⟨rfl, rfl⟩
/-- In a walk: a value built whose run is known. -/
theorem wpList_build_is {P : Program} {ops : Array Oper} {rest : List Oper} {o : Oper} {a : Act} {w : World} {Q : Exit → Act → World → Prop} (hg : o.guard = none) (t : TypeId) (parts : Array (Nat × Operand)) (ho : o.op = .build t parts) (v : Value) (vs : Array (Nat × Value)) (hp : (parts.map fun (i, x) => (i, a.eval x)) = vs)
    (hr : (Instr.build t vs).run P w = .ok v w) (h : wpList P ops Q rest (a.put o.dst v) w) : wpList P ops Q (o :: rest) a w := by
  refine wpList_plain hg fun K hK => ?_
  unfold Oper.wp execOp
  simp only [ho, hp, Sem.run_bind, hr, Result.andThen_ok]
  exact hK _ _ h
theorem run_build1 (u : World) : (Instr.build 32 #[(0, .int .i64 1), (1, .int .i64 1), (2, .int .i64 1), (3, blkV (onesL 1))]).run Try.prog u = .ok (fileV file1 none 0 none 0 none 0) u := by kernel_rfl
set_option maxRecDepth 100000 in
set_option maxHeartbeats 2000000 in
theorem filed_any (HP : FPackSpec) (w : World) : Calls Try.prog 17 #[] w fun e w' => e = .returned (.bool true) ∧ Below w.heap.size w w' := by
  go_enter Try.func17, Try.ntmps17
  go_wp2_with fail
  refine (ones_any 1 w).mono ?_
  rintro e w1 ⟨rfl, hb1⟩
  have hz1 := hb1.size
  have HPa := veil (HP file1 none 0 none 0 none 0 w1.heap.size w1 (file1_in w1 _) (Nat.le_refl _))
  rw [file1_ok] at HPa
  have hp1 := veil file1_pack
  obtain ⟨ov, hov⟩ : ∃ ov, ov = fileV file1 none 0 none 0 none 0 := ⟨_, rfl⟩
  have hrb := run_build1 w1
  rw [← hov] at hrb HPa
  obtain ⟨O, hO⟩ : ∃ O, O = oPack file1 := ⟨_, rfl⟩
  rw [← hO] at HPa hp1
  have Hrb := veil hrb
  clear hov hO hrb
  go_wp2_with (first
    | (go_loud (refine wpList_build_is rfl 32 _ rfl ov #[(0, .int .i64 1), (1, .int .i64 1), (2, .int .i64 1), (3, blkV (onesL 1))] (by kernel_rfl) Hrb.out ?_))
    | fail)
  refine HPa.out.mono ?_
  rintro e w2 ⟨v, rfl, HO, hb2⟩
  obtain ⟨A4, c4, hv4, hs4, _, _⟩ := HO.seen (List.mem_cons_self ..)
  obtain rfl : v = .slice A4 O.length c4 := hv4
  have hs4' : Seen w2 w2.heap.size A4 (ints .u8 O) := hs4
  obtain ⟨g4, o4, e4, _, hc4⟩ := hs4'.cell (ints_at hp1.out.2)
  subst e4
  have hl4 := hp1.out.1
  have hf := hb1.trans (hb2.mono hz1)
  have hc5 : w2.cell? ⟨g4, o4, none⟩ = some (.int .u8 77) := by simpa using hc4
  rw [hl4]
  clear HO hs4 hs4' hb2 hb1 HPa Hrb hc4 hl4
  go_wp2
  go_ret
  exact ⟨rfl, hf⟩
end Go.Proofs.Ytmdjhbkpekepgaa

/- The reference's comparison of two lists of numbers tells whether they are equal. -/
namespace Go.Proofs.Ytmdjhbkpekepgaa
open Go.RowKit
set_option linter.unusedVariables false
set_option linter.unusedSimpArgs false
set_option maxRecDepth 100000

set_option maxHeartbeats 400000 in
theorem eqInt (A B : Option Addr) (c d G : Nat) (xs ys : List Int) (w : World) (hx : Seen w G A (ints .i64 xs)) (hy : Seen w G B (ints .i64 ys)) (hlx : xs.length ≤ maxLen) (hly : ys.length ≤ maxLen) :
    Calls Try.prog 45 #[.slice A xs.length c, .slice B ys.length d] w fun e w' => e = .returned (.bool (decide (xs = ys))) ∧ w = w' := by
  unfold maxLen at hlx hly
  by_cases hl : xs.length = ys.length
  · have hne : ((xs.length : Int) != (ys.length : Int)) = false := by simp [hl]
    have Hl := veil hl
    clear hl
    go_enter Try.func45, Try.ntmps45
    go_wp2
    go_loop [5, 6, 14] (fun _ _ i => ∃ k : Nat, k ≤ xs.length ∧ i = .int .i64 k ∧ Hid (xs.take k = ys.take k)) (fun _ _ i => xs.length - (intOf i).toNat)
    case atStart => exact ⟨0, Nat.zero_le _, rfl, veil rfl⟩
    case round =>
      obtain ⟨k, hk, rfl, He⟩ := hrel
      by_cases hlt : k < xs.length
      · have hky : (k : Int) < (ys.length : Int) := by have := Hl.out; omega
        obtain ⟨g, o, x, rfl, _, hxk, h1⟩ := hx.int hlt
        obtain ⟨g', o', y, rfl, _, hyk, h2⟩ := hy.int (k := k) (by omega)
        have Hx := veil hxk; have Hy := veil hyk
        clear hxk hyk
        by_cases hxy : x = y
        · obtain rfl := hxy
          have hb : (x != x) = false := by simp
          go_wp2
          go_round
          case rel => exact ⟨k + 1, by omega, by go_num, veil (by rw [take_snoc Hx.out, take_snoc Hy.out, He.out])⟩
          case measure => simp [intOf]; omega
        · have hb : (x != y) = true := by simpa using hxy
          go_wp2
          go_ret
          refine ⟨ret_bool ?_, rfl⟩
          symm
          simp only [decide_eq_false_iff_not]
          intro e
          have h3 := Hx.out
          rw [e, Hy.out] at h3
          exact hxy (by injection h3 with h3; exact h3.symm)
      · go_wp2
        go_ret
        refine ⟨ret_bool ?_, rfl⟩
        symm
        have h3 := He.out
        rw [List.take_of_length_le (by omega), List.take_of_length_le (by have := Hl.out; omega)] at h3
        simpa using h3
  · have hne : ((xs.length : Int) != (ys.length : Int)) = true := by simp; omega
    have hd : decide (xs = ys) = false := by simp; intro e; exact hl (by rw [e])
    have Hd := veil hd
    clear hd hl
    go_enter Try.func45, Try.ntmps45
    go_wp2
    go_ret
    exact ⟨ret_bool Hd.out.symm, rfl⟩
end Go.Proofs.Ytmdjhbkpekepgaa

/- The reference's TableEq tells whether two tables are equal. -/
namespace Go.Proofs.Ytmdjhbkpekepgaa
open Go.RowKit
set_option linter.unusedVariables false
set_option linter.unusedSimpArgs false
set_option maxRecDepth 100000

theorem ext16 {cs ds : List Int} (hc : cs.length = 16) (hd : ds.length = 16) : (∀ i ∈ List.range 16, cs[i]? = ds[i]?) ↔ cs = ds := by
  constructor
  · intro h
    apply List.ext_getElem?
    intro i
    by_cases hi : i < 16
    · exact h i (List.mem_range.2 hi)
    · rw [List.getElem?_eq_none (by omega), List.getElem?_eq_none (by omega)]
  · rintro rfl i _; rfl
/-- Two arrays of 16 numbers compared. -/
theorem arr_eql (cs ds : List Int) (hc : cs.length = 16) (hd : ds.length = 16) (u : World) : (binOp .eql 24 (.agg (ints .i64 cs).toArray) (.agg (ints .i64 ds).toArray)).run Try.prog u = .ok (.bool (decide (cs = ds))) u := by
  cases hi : Try.prog.info? 3 with
  | none => have : (Try.prog.info? 3).isSome = true := by kernel_rfl
            rw [hi] at this; cases this
  | some inf =>
    have hc1 : Try.prog.cellsOf 3 = 1 := by kernel_rfl
    rw [run_eql_struct u 24, show (10000 : Nat) = 9998 + 1 + 1 from rfl, run_equalIn_array u (9998 + 1) _ _ Try.underlying24 hi, hc1,
      run_eqItems_ints u 9998 Try.underlying3 (by kernel_rfl) cs ds (List.range 16) (fun i hi => by have := List.mem_range.1 hi; omega)]
    simp only [Result.andThen_ok]
    exact congrArg (fun b => Result.ok (Value.bool b) u) (decide_eq_decide.2 (ext16 hc hd))
set_option maxRecDepth 100000 in
set_option maxHeartbeats 2000000 in
theorem tabEq_any (cs syms : List Int) (A : Option Addr) (c : Nat) (cs2 syms2 : List Int) (A2 : Option Addr) (c2 G : Nat) (w : World)
    (hcs : cs.length = 16) (hn : syms.length ≤ maxLen) (hs : Seen w G A (ints .i64 syms)) (hcs2 : cs2.length = 16) (hn2 : syms2.length ≤ maxLen) (hs2 : Seen w G A2 (ints .i64 syms2)) (hG : G ≤ w.heap.size) :
    Calls Try.prog 33 #[tabV cs A syms.length c, tabV cs2 A2 syms2.length c2] w fun e w' => e = .returned (.bool (decide (cs = cs2 ∧ syms = syms2))) ∧ Below w.heap.size w w' := by
  have hr1 : ∀ (xs1 xs2 : List Value), xs1 = tabCells cs A syms.length c → ((w.alloc (.cells xs1.toArray 27)).alloc (.cells xs2.toArray 27)).rangeAt w.heap.size 0 (ints .i64 cs) := by
    intro xs1 xs2 e1
    subst e1
    exact range_below (range_left (range_new w _ _)) (below1 _ _) (by simp)
  have hr2 : ∀ (xs1 xs2 : List Value), xs2 = tabCells cs2 A2 syms2.length c2 → ((w.alloc (.cells xs1.toArray 27)).alloc (.cells xs2.toArray 27)).rangeAt (w.heap.size + 1) 0 (ints .i64 cs2) := by
    intro xs1 xs2 e2
    subst e2
    have h := range_left (range_new (w.alloc (.cells xs1.toArray 27)) (tabCells cs2 A2 syms2.length c2) 27)
    rw [World.size_alloc'] at h
    exact h
  have k1 := tabCells_last (A := A) (n := syms.length) (c := c) hcs
  have k2 := tabCells_last (A := A2) (n := syms2.length) (c := c2) hcs2
  obtain ⟨xs1, h1⟩ : ∃ xs1, xs1 = tabCells cs A syms.length c := ⟨_, rfl⟩
  obtain ⟨xs2, h2⟩ : ∃ xs2, xs2 = tabCells cs2 A2 syms2.length c2 := ⟨_, rfl⟩
  have HR1 := veil (hr1 xs1 xs2 h1)
  have HR2 := veil (hr2 xs1 xs2 h2)
  unfold tabV
  rw [← h1, ← h2]
  rw [← h1] at k1
  rw [← h2] at k2
  have d1 : ((w.alloc (.cells xs1.toArray 27)).alloc (.cells xs2.toArray 27)).cell? ⟨w.heap.size, 16, none⟩ = some (.slice A syms.length c) := by
    rw [(below1 _ _).cell (by simp), World.cell?_alloc_at _ _ _ _ rfl]; simpa using k1
  have d2 : ((w.alloc (.cells xs1.toArray 27)).alloc (.cells xs2.toArray 27)).cell? ⟨w.heap.size + 1, 16, none⟩ = some (.slice A2 syms2.length c2) := by
    rw [World.cell?_alloc_at _ _ _ _ (by simp)]; simpa using k2
  have hbb : Below w.heap.size w ((w.alloc (.cells xs1.toArray 27)).alloc (.cells xs2.toArray 27)) := below2 _ _ _
  have Hs := veil (hs.below hbb hG)
  have Hs2 := veil (hs2.below hbb hG)
  have Hbb := veil hbb
  have H1 : Hid ((ints .i64 cs).length = 16) := by show _ = _; rw [ints_length, hcs]
  have H2 : Hid ((ints .i64 cs2).length = 16) := by show _ = _; rw [ints_length, hcs2]
  have heq := arr_eql cs cs2 hcs hcs2
  have HE := veil (fun u h3 h4 => eqInt A A2 c c2 G syms syms2 u h3 h4 hn hn2)
  obtain ⟨q, hq⟩ : ∃ q, q = decide (cs = cs2) := ⟨_, rfl⟩
  rw [← hq] at heq
  obtain ⟨r, hr⟩ : ∃ r, r = decide (syms = syms2) := ⟨_, rfl⟩
  rw [← hr] at HE
  have hqr : decide (cs = cs2 ∧ syms = syms2) = (q && r) := by rw [hq, hr]; simp
  rw [hqr]
  clear hr1 hr2 k1 k2 h1 h2 hbb hs hs2 hcs hcs2 hq hr hqr
  generalize ints .i64 cs = z1 at *
  generalize ints .i64 cs2 = z2 at *
  go_enter Try.func33, Try.ntmps33
  cases q with
  | false =>
    go_wp2_with (first
      | (refine wpList_load_mid rfl 24 (.tmp 5) rfl w.heap.size 0 rfl z1 _ HR1.out Try.underlying24 rfl (by rw [H1.out]; exact info_arr) ?_)
      | (refine wpList_load_mid rfl 24 (.tmp 7) rfl (w.heap.size + 1) 0 rfl z2 _ HR2.out Try.underlying24 rfl (by rw [H2.out]; exact info_arr) ?_)
      | fail)
    go_ret
    exact ⟨rfl, Hbb.out⟩
  | true =>
    go_wp2_with (first
      | (refine wpList_load_mid rfl 24 (.tmp 5) rfl w.heap.size 0 rfl z1 _ HR1.out Try.underlying24 rfl (by rw [H1.out]; exact info_arr) ?_)
      | (refine wpList_load_mid rfl 24 (.tmp 7) rfl (w.heap.size + 1) 0 rfl z2 _ HR2.out Try.underlying24 rfl (by rw [H2.out]; exact info_arr) ?_)
      | fail)
    refine (HE.out _ Hs.out Hs2.out).mono ?_
    rintro e w2 ⟨rfl, rfl⟩
    go_wp2
    go_ret
    exact ⟨rfl, Hbb.out⟩
end Go.Proofs.Ytmdjhbkpekepgaa

/- The reference's comparison of two lists of bytes tells whether they are equal. -/
namespace Go.Proofs.Ytmdjhbkpekepgaa
open Go.RowKit
set_option linter.unusedVariables false
set_option linter.unusedSimpArgs false
set_option maxRecDepth 100000

set_option maxHeartbeats 400000 in
theorem eqByte (A B : Option Addr) (c d G : Nat) (xs ys : List Int) (w : World) (hx : Seen w G A (ints .u8 xs)) (hy : Seen w G B (ints .u8 ys)) (hlx : xs.length ≤ maxLen) (hly : ys.length ≤ maxLen) :
    Calls Try.prog 13 #[.slice A xs.length c, .slice B ys.length d] w fun e w' => e = .returned (.bool (decide (xs = ys))) ∧ w = w' := by
  unfold maxLen at hlx hly
  by_cases hl : xs.length = ys.length
  · have hne : ((xs.length : Int) != (ys.length : Int)) = false := by simp [hl]
    have Hl := veil hl
    clear hl
    go_enter Try.func13, Try.ntmps13
    go_wp2
    go_loop [5, 6, 14] (fun _ _ i => ∃ k : Nat, k ≤ xs.length ∧ i = .int .i64 k ∧ Hid (xs.take k = ys.take k)) (fun _ _ i => xs.length - (intOf i).toNat)
    case atStart => exact ⟨0, Nat.zero_le _, rfl, veil rfl⟩
    case round =>
      obtain ⟨k, hk, rfl, He⟩ := hrel
      by_cases hlt : k < xs.length
      · have hky : (k : Int) < (ys.length : Int) := by have := Hl.out; omega
        obtain ⟨g, o, x, rfl, _, hxk, h1⟩ := hx.int hlt
        obtain ⟨g', o', y, rfl, _, hyk, h2⟩ := hy.int (k := k) (by omega)
        have Hx := veil hxk; have Hy := veil hyk
        clear hxk hyk
        by_cases hxy : x = y
        · obtain rfl := hxy
          have hb : (x != x) = false := by simp
          go_wp2
          go_round
          case rel => exact ⟨k + 1, by omega, by go_num, veil (by rw [take_snoc Hx.out, take_snoc Hy.out, He.out])⟩
          case measure => simp [intOf]; omega
        · have hb : (x != y) = true := by simpa using hxy
          go_wp2
          go_ret
          refine ⟨ret_bool ?_, rfl⟩
          symm
          simp only [decide_eq_false_iff_not]
          intro e
          have h3 := Hx.out
          rw [e, Hy.out] at h3
          exact hxy (by injection h3 with h3; exact h3.symm)
      · go_wp2
        go_ret
        refine ⟨ret_bool ?_, rfl⟩
        symm
        have h3 := He.out
        rw [List.take_of_length_le (by omega), List.take_of_length_le (by have := Hl.out; omega)] at h3
        simpa using h3
  · have hne : ((xs.length : Int) != (ys.length : Int)) = true := by simp; omega
    have hd : decide (xs = ys) = false := by simp; intro e; exact hl (by rw [e])
    have Hd := veil hd
    clear hd hl
    go_enter Try.func13, Try.ntmps13
    go_wp2
    go_ret
    exact ⟨ret_bool Hd.out.symm, rfl⟩
end Go.Proofs.Ytmdjhbkpekepgaa
