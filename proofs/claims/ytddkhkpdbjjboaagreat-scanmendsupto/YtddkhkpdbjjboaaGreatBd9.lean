/- Texts shared by the claims of this seat, in one. -/
import Derived.Test.YtddkhkpdbjjboaaGreatBd1
import Derived.Test.YtddkhkpdbjjboaaGreatBd4
import Derived.Test.YtddkhkpdbjjboaaGreatBd8
import Derived.Test.YtddkhkpdbjjboaaGreatBd3
import Derived.Test.YtddkhkpdbjjboaaGreatBd6
import Derived.Test.YtddkhkpdbjjboaaGreatBd5
/- Rows of integers of one length, one behind another in memory: blocks in a slice. No program is named here. -/
namespace Go.Proofs.YtddkhkpdbjjboaaGreat
open Go.RowKit
set_option linter.unusedVariables false
set_option linter.unusedSimpArgs false
set_option maxRecDepth 100000

/-- Rows of integers, one behind another. -/
def rowsC (L : List (List Int)) : List Value := L.flatMap (ints .i64)
theorem rowsC_length {n : Nat} : ∀ {L : List (List Int)}, (∀ r ∈ L, r.length = n) → (rowsC L).length = L.length * n
  | [], _ => by simp [rowsC]
  | r :: L, h => by
    have h1 := rowsC_length (L := L) fun x hx => h x (List.mem_cons_of_mem _ hx)
    have h2 := h r List.mem_cons_self
    simp only [rowsC, List.flatMap_cons, List.length_append, ints_length, List.length_cons] at h1 ⊢
    rw [h1, h2, Nat.add_mul]; omega
theorem rowsC_at {n : Nat} : ∀ {L : List (List Int)}, (∀ r ∈ L, r.length = n) → ∀ {i j : Nat} {r : List Int}, L[i]? = some r → j < n → (rowsC L)[i * n + j]? = (ints .i64 r)[j]?
  | [], _, i, j, r, h, _ => by simp at h
  | s :: L, hl, 0, j, r, h, hj => by
    simp at h; subst h
    have := hl s List.mem_cons_self
    rw [rowsC, List.flatMap_cons, Nat.zero_mul, Nat.zero_add, List.getElem?_append_left (by rw [ints_length]; omega)]
  | s :: L, hl, i + 1, j, r, h, hj => by
    rw [List.getElem?_cons_succ] at h
    have h2 := hl s List.mem_cons_self
    have ih := rowsC_at (L := L) (fun x hx => hl x (List.mem_cons_of_mem _ hx)) h hj
    rw [rowsC, List.flatMap_cons, List.getElem?_append_right (by rw [ints_length, h2, Nat.add_mul]; omega), ints_length, h2, show (i + 1) * n + j - n = i * n + j by rw [Nat.add_mul]; omega]
    exact ih
/-- One row of a slice that is seen. -/
theorem Seen.row {w : World} {G n : Nat} {A : Option Addr} {L : List (List Int)} (h : Seen w G A (rowsC L)) (hl : ∀ r ∈ L, r.length = n) (hp : 0 < n) {k : Nat} (hk : k < L.length) :
    ∃ g o r, A = some ⟨g, o, none⟩ ∧ g < G ∧ L[k]? = some r ∧ r.length = n ∧ w.rangeAt g (o + k * n) (ints .i64 r) := by
  obtain ⟨r, hr⟩ := some_at hk
  have hrl := hl r (List.mem_of_getElem? hr)
  have hlt : 0 < (rowsC L).length := by rw [rowsC_length hl]; exact Nat.mul_pos (by omega) hp
  obtain ⟨g, o, e, hg, hc⟩ := h.at hlt
  refine ⟨g, o, r, e, hg, hr, hrl, fun j v hv => ?_⟩
  have hj : j < n := by have := (List.getElem?_eq_some_iff.1 hv).1; rw [ints_length] at this; omega
  have h2 := rowsC_at hl hr hj
  rw [hv] at h2
  have := hc _ _ h2
  rw [Nat.add_assoc]; exact this
theorem rowsC_take (L : List (List Int)) (k : Nat) : rowsC L = rowsC (L.take k) ++ rowsC (L.drop k) := by
  unfold rowsC; rw [← List.flatMap_append, List.take_append_drop]
end Go.Proofs.YtddkhkpdbjjboaaGreat

/- seg.eachToken: its contract, whatever function it hands the tokens to. -/
namespace Go.Proofs.YtddkhkpdbjjboaaGreat
open Go.RowKit
set_option linter.unusedVariables false
set_option linter.unusedSimpArgs false
set_option maxRecDepth 100000

/-- A function that takes tokens: what it keeps, and which blocks it writes. -/
structure Taker (f : FuncId) (caps : Array Value) (G : Nat) (I : World → (Nat → Prop) → List (Bool × Int × Int × Int) → Prop) : Prop where
  enters : Enters Tryz.prog f
  foot : ∀ {W F acc}, I W F acc → ∀ q, F q → q < W.heap.size ∧ G ≤ q
  keep : ∀ {W W' F acc}, I W F acc → Below W.heap.size W W' → I W' F acc
  take : ∀ {W F acc} (first : Bool) (t : Int × Int × Int), I W F acc → acc.length < 25600 → goodT t → Calls Tryz.prog f (#[tokV t, .bool first] ++ caps) W fun e W' => e = .returned (.tuple #[]) ∧ ∃ F', I W' F' (acc ++ [(first, t)]) ∧ Only F W W' ∧ ∀ q, F' q → F q ∨ W.heap.size ≤ q
set_option maxRecDepth 100000 in
set_option maxHeartbeats 8000000 in
theorem eachToken_any (f : FuncId) (caps : Array Value) (G : Nat) (I : World → (Nat → Prop) → List (Bool × Int × Int × Int) → Prop) (hT : Taker f caps G I) (F0 : Nat → Prop) (L : List (List Int)) (A : Option Addr) (c : Nat) (w : World)
    (hl : ∀ r ∈ L, r.length = 64) (hm : L.length ≤ maxLen) (hs0 : L.length ≤ 400 → Seen w G A (rowsC L)) (hG : G ≤ w.heap.size) (hI : I w F0 []) :
    Calls Tryz.prog 40 #[.slice A L.length c, .func (.func f) #[] caps] w fun e w' => e = .returned (.int .i64 (eL L)) ∧ ∃ F acc, I w' F acc ∧ Only F0 w w' ∧ (∀ q, F q → F0 q ∨ w.heap.size ≤ q) ∧ (eL L = 0 → acc = toksB 0 L) := by
  unfold maxLen at hm
  obtain ⟨E, hE⟩ : ∃ E, E = eL L := ⟨_, rfl⟩
  rw [← hE]
  by_cases hbig : 400 < L.length
  · have hbz : (400 : Int) < (L.length : Int) := by omega
    rw [eL_large hbig] at hE
    subst hE
    clear hs0
    go_enter Tryz.func40, Tryz.ntmps40
    go_wp2
    go_ret
    exact ⟨rfl, F0, [], hI, Only.refl _ _, fun q h => .inl h, fun h => by cases h⟩
  · have hbz : ¬ (400 : Int) < (L.length : Int) := by omega
    have hs := hs0 (by omega)
    clear hs0
    have HE := veil hE
    have Hbig := veil hbig
    have HTk := veil hT
    have HI0 := veil hI
    have hF0 := hT.foot hI
    have HF0 := veil hF0
    have HTo := veil (fun b cs W h => tokens_any b cs W h)
    unfold blkV at HTo
    clear hE hbig hI hF0 hT
    go_enter Tryz.func40, Tryz.ntmps40
    go_wp2_with fail
    go_loopg [5, 17] L.length (fun gk v5 iv wr => ∃ (k : Nat) (before : Int) (F : Nat → Prop), gk = L.length - k ∧ k ≤ L.length ∧ iv = .int .i64 (k : Int) ∧ v5 = .int .i64 before ∧ Hid (before = ahead L k) ∧ Hid (∀ r ∈ L.take k, inB (-2047) 2047 r = true) ∧ Hid (I wr F (toksB 0 (L.take k))) ∧ Hid (Only F0 w wr) ∧ Hid (∀ q, F q → F0 q ∨ w.heap.size ≤ q))
    case atStart => exact ⟨0, 0, F0, rfl, Nat.zero_le _, rfl, rfl, veil rfl, veil (by simp), HI0, veil (Only.refl _ _), veil (fun q h => .inl h)⟩
    case round =>
      clear HI0
      obtain ⟨k, before, F, rfl, hk, rfl, rfl, HA, HIn, HI, HOn, HFs⟩ := hrel
      obtain ⟨W1, hW1⟩ : ∃ W1, W1 = wr := ⟨_, rfl⟩
      subst hW1
      have hzr := HOn.out.size
      by_cases hlt : k < L.length
      · have hltz : (k : Int) < (L.length : Int) := by omega
        have hbe := HOn.out.below hG (fun q hq => (HF0.out q hq).2)
        obtain ⟨g, o, r, rfl, hg, hr, hrl, hrange⟩ := hs.row hl (by omega) hlt
        have hrg := range_below hrange hbe hg
        have hbin := ahead_in (k := k) hl HIn.out hk
        rw [← HA.out] at hbin
        have Hl : Hid ((ints .i64 r).length = 64) := by show _ = _; rw [ints_length, hrl]
        have hone := ints_one (k := .i64) (l := r)
        have hr2 := range_new W1 (ints .i64 r) 37
        have hB2 := Blk.new W1 (ints .i64 r) 37
        have hb2 := below1 W1 (.cells (ints .i64 r).toArray 37)
        have HT2 := veil (HTo.out before r (W1.alloc (.cells (ints .i64 r).toArray 37)) hrl)
        have hI2 := HTk.out.keep HI.out hb2
        have hOn2 : Only F0 w (W1.alloc (.cells (ints .i64 r).toArray 37)) := HOn.out.trans (Only.of_below hb2 (Nat.le_refl _) : Only (fun _ => False) _ _) (fun q h => h.elim)
        have hz2 : (W1.alloc (.cells (ints .i64 r).toArray 37)).heap.size = W1.heap.size + 1 := by simp
        have hF2 := HTk.out.foot HI.out
        have hhd : (ints .i64 r)[0]? = some (.int .i64 (r.headD 0)) := by
          match r, hrl with
          | z :: r, _ => rfl
        have Hr := veil hr
        have Hbin := veil hbin
        have HI2 := veil hI2
        have HOn2 := veil hOn2
        have HF2 := veil hF2
        have Hrl := veil hrl
        obtain ⟨ys, hys⟩ : ∃ ys, ys = ints .i64 r := ⟨_, rfl⟩
        rw [← hys] at hrg Hl hone hr2 hB2 hb2 HT2 HI2 HOn2 hz2 hhd
        have Hys := veil hys
        have hc0 := hB2.cell hhd
        have Hhd := veil hhd
        clear hrange hr hrl hbin hI2 hOn2 hF2 hys hhd hc0 hb2 HI hbe
        go_wp2_with (first
          | (refine wpList_load_mid rfl 37 (.tmp 19) rfl g (o + k * 64) rfl ys _ hrg Tryz.underlying37 rfl (info_blkn Hl.out) ?_)
          | (refine wpList_store_new W1 rfl 37 (.tmp 7) (.tmp 20) rfl zeroB.toArray ys rfl rfl (info_blkn Hl.out) (by rw [Hl.out]; rfl) hone ?_)
          | (refine wpList_load_mid rfl 37 (.tmp 7) rfl W1.heap.size 0 rfl ys _ hr2 Tryz.underlying37 rfl (info_blkn Hl.out) ?_)
          | fail)
        refine HT2.out.mono ?_
        rintro e w3 ⟨v, rfl, HO3, hb3⟩
        have hz3 := hb3.size
        have hI3 := HTk.out.keep HI2.out hb3
        have hOn3 : Only F0 w w3 := HOn2.out.trans (Only.of_below hb3 (Nat.le_refl _) : Only (fun _ => False) _ _) (fun q h => h.elim)
        have hB3 := hB2.below hb3 (by omega)
        rw [hz2] at HO3 hz3
        clear hrg hr2 HT2 hb3 hB2 HI2 HOn2
        by_cases hin : inB (-2047) 2047 r = true
        · have hT0 := eT_ok Hbin.out.1 Hbin.out.2 hin
          rw [oT_ok hT0] at HO3
          rw [hT0]
          obtain ⟨T, hT⟩ : ∃ T, T = toksZ before (toL r) := ⟨_, rfl⟩
          have hgood : ∀ t ∈ T, goodT t := by rw [hT]; exact toks_good Hbin.out (toL_in Hrl.out hin)
          have hTl : T.length ≤ 64 := by rw [hT]; exact toks_len _ (toL_length _)
          have hacc : toksB 0 (L.take (k + 1)) = toksB 0 (L.take k) ++ flagT T := by rw [toksB_next Hr.out, hT, HA.out]
          rw [← hT] at HO3
          have hown : ∀ q, v.ownBlock = some q → W1.heap.size + 1 ≤ q ∧ q < w3.heap.size := fun q hq => (HO3.head).lt q hq
          obtain ⟨A5, c5, hv5, hs5, hc5, hm5⟩ := tok_form HO3
          have Hgood := veil hgood
          have Hacc := veil hacc
          have Hown := veil hown
          have Hin : Hid (∀ x ∈ L.take (k + 1), inB (-2047) 2047 x = true) := by
            intro x hx
            rw [take_snoc Hr.out] at hx
            rcases List.mem_append.1 hx with hx | hx
            · exact HIn.out x hx
            · rw [List.mem_singleton.1 hx]; exact hin
          have HO3 := veil HO3
          have Hv5 := veil hv5
          have hlen0 : (toksB 0 (L.take k)).length ≤ 64 * k := by have := toksB_len (L.take k) 0; rw [List.length_take, Nat.min_eq_left hk] at this; exact this
          have hL400 : L.length ≤ 400 := by have := Hbig.out; omega
          have Hlen0 := veil hlen0
          have HI3 := veil hI3; have HOn3 := veil hOn3; have HB3 := veil hB3
          subst v
          clear hT0 hT hgood hacc hown hin hlen0 hI3 hOn3 hB3 hs5 HIn
          go_wp2_with fail
          go_loopg [32] T.length (fun gk iv wi => ∃ (j : Nat) (F' : Nat → Prop), gk = T.length - j ∧ j ≤ T.length ∧ iv = .int .i64 (j : Int) ∧ Hid (I wi F' (toksB 0 (L.take k) ++ flagT (T.take j))) ∧ Hid (Only F0 w wi) ∧ Hid (∀ q, F' q → F q ∨ w3.heap.size ≤ q) ∧ Hid (Owns (W1.heap.size + 1) [tokRow (.slice A5 T.length c5) T] wi) ∧ Hid (Blk wi W1.heap.size ys 37) ∧ w3.heap.size ≤ wi.heap.size)
          case atStart => exact ⟨0, F, rfl, Nat.zero_le _, rfl, by rw [List.take_zero]; simpa [flagT] using HI3, HOn3, veil (fun q h => .inl h), HO3, HB3, Nat.le_refl _⟩
          case round =>
            clear HI3 HOn3 HB3 HO3
            obtain ⟨j, F', rfl, hj, rfl, HI, HOn, HFs', HO, HB, hzi⟩ := hrel
            by_cases hltj : j < T.length
            · have hltjz : (j : Int) < (T.length : Int) := by omega
              obtain ⟨A6, c6, hv6, hs6, hc6, hm6⟩ := tok_form HO.out
              obtain ⟨rfl, rfl⟩ : A5 = A6 ∧ c5 = c6 := by simpa using hv6
              obtain ⟨g6, o6, t0, t1, t2, rfl, hg6, htj, d0, d1, d2⟩ := hs6.tok hltj
              obtain ⟨bf, hbf⟩ : ∃ bf : Bool, ((j : Int) == 0) = bf := ⟨_, rfl⟩
              have hbf2 : bf = decide (j = 0) := by rw [← hbf, Bool.eq_iff_iff]; simp
              have hg := Hgood.out _ (List.mem_of_getElem? htj)
              have hb7 := below1 wr (.cells (tokC (t0, t1, t2)).toArray 73)
              have hI7 := HTk.out.keep HI.out hb7
              have hfl : (toksB 0 (L.take k) ++ flagT (T.take j)).length < 25600 := by
                rw [List.length_append, flagT_length, List.length_take]; have := Hlen0.out; omega
              have HTt := veil (HTk.out.take bf (t0, t1, t2) hI7 hfl hg)
              have hsn : (toksB 0 (L.take k) ++ flagT (T.take j)) ++ [(bf, t0, t1, t2)] = toksB 0 (L.take k) ++ flagT (T.take (j + 1)) := by
                rw [List.append_assoc]
                congr 1
                have h9 := flagT_at htj
                rw [← flagT_take, ← flagT_take, take_snoc h9, hbf2]
              rw [hsn] at HTt
              have hz7 : (wr.alloc (.cells (tokC (t0, t1, t2)).toArray 73)).heap.size = wr.heap.size + 1 := by simp
              have hF7 := HTk.out.foot HI.out
              have hO7 := HO.out.alloc (.cells (tokC (t0, t1, t2)).toArray 73)
              have hB7 := HB.out.below hb7 (by have := HB.out.lt; omega)
              have hOn7 : Only F0 w (wr.alloc (.cells (tokC (t0, t1, t2)).toArray 73)) := HOn.out.trans (Only.of_below hb7 (Nat.le_refl _) : Only (fun _ => False) _ _) (fun q h => h.elim)
              have Hz7 := veil hz7; have HF7 := veil hF7; have HO7 := veil hO7; have HB7 := veil hB7; have HOn7 := veil hOn7
              have hen := HTk.out.enters
              have Hen := veil hen
              clear hbf2 hg hb7 hI7 hfl hsn hz7 hF7 hO7 hB7 hOn7 hen htj hs6 hv6
              go_wp2_with fail
              rw [Hen.out, Oper.upon_enter]
              refine HTt.out.mono ?_
              rintro e w8 ⟨rfl, F8, hI8, hOn8, hF8⟩
              have hz8 := hOn8.size
              have hz7 := Hz7.out
              have hnF : ∀ q, F' q → q < W1.heap.size ∨ w3.heap.size ≤ q := fun q hq => by
                rcases HFs'.out q hq with h | h
                · exact .inl (HF2.out q h).1
                · exact .inr h
              have hOn9 : Only F0 w w8 := HOn7.out.trans hOn8 (fun q hq => by
                rcases HFs'.out q hq with h | h
                · exact HFs.out q h
                · right; omega)
              have hF9 : ∀ q, F8 q → F q ∨ w3.heap.size ≤ q := fun q hq => by
                rcases hF8 q hq with h | h
                · exact HFs'.out q h
                · right; omega
              have hO9 := HO7.out.only hOn8 (fun r hr q hq hFq => by
                rw [List.mem_singleton.1 hr] at hq
                have h1 := Hown.out q hq
                have h2 := hnF q hFq
                omega)
              have hB9 := hOn8.blk HB7.out (fun hFq => by have := hnF _ hFq; omega)
              have HI9 := veil hI8; have HOn9 := veil hOn9; have HF9 := veil hF9; have HO9 := veil hO9; have HB9 := veil hB9
              have hz9 : w3.heap.size ≤ w8.heap.size := by omega
              clear hI8 hOn8 hF8 hnF hOn9 hF9 hO9 hB9 hz7
              go_wp2_with fail
              go_roundg (T.length - (j + 1))
              case rel => exact ⟨j + 1, F8, rfl, by omega, by go_num, HI9, HOn9, HF9, HO9, HB9, hz9⟩
              case measure => omega
            · obtain rfl : j = T.length := by omega
              have hI9 := HI.out
              rw [List.take_length, ← Hacc.out] at hI9
              have HI9 := veil hI9
              have hc0 := HB.out.cell Hhd.out
              have hF9 : ∀ q, F' q → F0 q ∨ w.heap.size ≤ q := fun q hq => by
                rcases HFs'.out q hq with h | h
                · exact HFs.out q h
                · right; omega
              have HF9 := veil hF9
              have HA9 : Hid (r.headD 0 = ahead L (k + 1)) := (ahead_next Hr.out).symm
              clear hI9 hF9
              go_wp2_with fail
              go_roundg (L.length - (k + 1))
              case rel => exact ⟨k + 1, r.headD 0, F', rfl, by omega, by go_num, by rw [List.headD_eq_head?_getD], HA9, Hin, HI9, HOn, HF9⟩
              case measure => omega
        · have h5 := eL_bad Hbig.out Hr.out (by simpa using hin)
          rw [← HE.out] at h5
          subst h5
          rw [eT_bad (fun h => hin h.2.2)]
          have HI3 := veil hI3; have HOn3 := veil hOn3
          clear hI3 hOn3 HO3 hB3 hin
          go_wp2_with fail
          go_ret
          exact ⟨rfl, F, _, HI3.out, HOn3.out, HFs.out, fun h => by cases h⟩
      · obtain rfl : k = L.length := by omega
        have h5 := eL_ok Hbig.out (fun r hr => HIn.out r (by rw [List.take_of_length_le (Nat.le_refl _)]; exact hr))
        rw [← HE.out] at h5
        subst h5
        go_wp2_with fail
        go_ret
        exact ⟨rfl, F, _, HI.out, HOn.out, HFs.out, by rw [List.take_length]⟩
end Go.Proofs.YtddkhkpdbjjboaaGreat

/- table.Codewords: its contract. -/
namespace Go.Proofs.YtddkhkpdbjjboaaGreat
open Go.RowKit
set_option linter.unusedVariables false
set_option linter.unusedSimpArgs false
set_option maxRecDepth 100000

set_option maxRecDepth 100000 in
set_option maxHeartbeats 2000000 in
theorem codewords_any (cs syms : List Int) (A : Option Addr) (c G : Nat) (w : World) (hcs : cs.length = 16) (hn : syms.length ≤ maxLen) (hb : ∀ x ∈ cs, -9223372036854775808 ≤ x ∧ x ≤ 9223372036854775807) (hs : Seen w G A (ints .i64 syms)) (hG : G ≤ w.heap.size) :
    Calls Tryz.prog 42 #[tabV cs A syms.length c] w fun e w' => ∃ v, e = .returned (.tuple #[v, .int .i64 (checkErr cs syms)]) ∧ (checkErr cs syms = 0 → ∃ b, v = .map (some b) ∧ w.heap.size ≤ b ∧ MapF w' b syms.length (symF (outWords cs syms)) (symS (outWords cs syms))) ∧ (checkErr cs syms ≠ 0 → v = .map none) ∧ Below w.heap.size w w' := by
  have hlen17 : (tabCells cs A syms.length c).length = 17 := tabCells_length hcs
  have hck := fun w1 h1 hG1 => words_any cs syms A c G w1 hcs hn hb h1 hG1
  have Hcs := veil hcs
  clear hcs hb
  obtain ⟨ys, hys⟩ : ∃ ys, ys = tabCells cs A syms.length c := ⟨_, rfl⟩
  have Hr := veil (range_new w ys 25)
  unfold tabV at hck ⊢
  rw [← hys] at hlen17 hck ⊢
  clear hys
  have Hck := veil hck; clear hck
  have H17 := veil hlen17; clear hlen17
  go_enter Tryz.func42, Tryz.ntmps42
  go_wp2_with (first
    | (refine wpList_load_mid rfl 25 (.tmp 1) rfl w.heap.size 0 rfl ys _ Hr.out Tryz.underlying25 rfl (by rw [H17.out]; exact info_tab) ?_)
    | fail)
  refine (Hck.out _ (hs.alloc hG _) (by simp; omega)).mono ?_
  rintro e w1 ⟨v, rfl, HO, hb1⟩
  have hbel1 : Below w.heap.size w w1 := (below1 _ _).trans (hb1.mono (by simp))
  have hz1 := hb1.size
  simp at hz1
  clear Hr hb1
  by_cases h0 : checkErr cs syms = 0
  · rw [h0]
    have H0 := veil h0
    obtain ⟨l, hf, how, hll⟩ := fine_of h0
    have h256 := hf.good.le
    rw [how] at HO
    have hwl : (mkWords syms l).length = syms.length := by rw [mkWords_length _ _ (by omega), hll]
    have hwf : ∀ t ∈ mkWords syms l, WF t.1 := fun t ht => (fi_small hf Hcs.out ht).1
    obtain ⟨A5, c5, e5, hs5, _, _⟩ := HO.seen (List.mem_cons_self ..)
    simp only [wordRow] at e5 hs5
    rw [hwl] at e5
    subst e5
    have hby := bySymbol_any A5 c5 w1.heap.size (mkWords syms l) w1 hs5 (Nat.le_refl _) (by rw [hwl]; omega) hwf
    rw [hwl] at hby
    have Hby := veil hby
    have How := veil how
    clear hby hwf hwl hll hf how HO hs5 h0
    go_wp2_with fail
    refine Hby.out.mono ?_
    rintro e w2 ⟨b, rfl, hbb, HM, hb2⟩
    rw [← How.out] at HM
    have hbel2 := hbel1.trans (hb2.mono hbel1.size)
    have hbb2 : w.heap.size ≤ b := by omega
    clear Hby hb2
    go_wp2
    go_ret2
    exact ⟨_, ret_two rfl (by rw [H0.out]; rfl), fun _ => ⟨b, rfl, hbb2, HM⟩, fun h => absurd H0.out h, hbel2⟩
  · have hne : (checkErr cs syms != 0) = true := by simpa using h0
    have H0 := veil h0
    clear h0 Hck HO
    obtain ⟨E, hE⟩ : ∃ E, E = checkErr cs syms := ⟨_, rfl⟩
    rw [← hE] at hne ⊢
    have HE := veil hE
    clear hE
    go_wp2
    go_ret2
    exact ⟨_, ret_two rfl (by rw [← HE.out]; rfl), fun h => absurd h H0.out, fun _ => rfl, hbel1⟩
end Go.Proofs.YtddkhkpdbjjboaaGreat

/- seg.Encode's function that takes tokens: its contract. -/
namespace Go.Proofs.YtddkhkpdbjjboaaGreat
open Go.RowKit
set_option linter.unusedVariables false
set_option linter.unusedSimpArgs false
set_option maxRecDepth 100000

theorem allW_snoc {fw rw_ : List (Int × Nat × Nat)} {acc : List (Bool × Int × Int × Int)} {x : Bool × Int × Int × Int} : AllW fw rw_ (acc ++ [x]) ↔ AllW fw rw_ acc ∧ (symF (wsOf fw rw_ x.1) x.2.1).isSome = true := by
  unfold AllW
  constructor
  · intro h; exact ⟨fun y hy => h y (by simp [hy]), h x (by simp)⟩
  · rintro ⟨h1, h2⟩ y hy
    rcases List.mem_append.1 hy with hy | hy
    · exact h1 y hy
    · rw [List.mem_singleton.1 hy]; exact h2
theorem sym_ok {ws : List (Int × Nat × Nat)} (hpf : PF ws) {x p1 p2 : Int} (h : symF ws x = some (p1, p2)) : okF (p1, p2) := by
  obtain ⟨t, ht, _, e⟩ := symF_mem h
  have := hpf.small t ht
  simp only [fi, Prod.mk.injEq] at e
  rw [← e.1, ← e.2]
  exact (okF_nat _ _).2 ⟨by omega, this.2⟩
theorem sym_short {ws : List (Int × Nat × Nat)} (hpf : PF ws) {x p1 p2 : Int} (h : symF ws x = some (p1, p2)) : p1.toNat ≤ 16 := by
  obtain ⟨t, ht, _, e⟩ := symF_mem h
  have := hpf.small t ht
  simp only [fi, Prod.mk.injEq] at e
  omega
theorem good_ok {t0 t1 t2 : Int} (h : goodT (t0, t1, t2)) : okF (t1, t2) := by
  obtain ⟨h1, h2, h3⟩ := goodT_fit h
  simp only at h1 h2 h3
  obtain ⟨a, rfl⟩ := Int.eq_ofNat_of_zero_le h1.1
  obtain ⟨b, rfl⟩ := Int.eq_ofNat_of_zero_le h2
  unfold pw at h3
  rw [Int.toNat_natCast] at h3
  exact (okF_nat a b).2 ⟨by omega, by omega⟩
theorem MapF.kept {w w' : World} {b n g : Nat} {f : Int → Option (Int × Int)} {s : Nat} (h : MapF w b n f s) (hg : w.grownBy w' (some g)) (hn : b ≠ g) : MapF w' b n f s := by
  have hlt := h.lt
  obtain ⟨D, ⟨es, clock, h1, h2⟩, h3⟩ := h
  exact ⟨D, ⟨es, clock, by rw [hg.block b hlt (by simpa using hn)]; exact h1, h2⟩, h3⟩
theorem MapF.only {w w' : World} {b n : Nat} {F : Nat → Prop} {f : Int → Option (Int × Int)} {s : Nat} (h : MapF w b n f s) (hg : Only F w w') (hn : ¬ F b) : MapF w' b n f s := by
  have hlt := h.lt
  obtain ⟨D, ⟨es, clock, h1, h2⟩, h3⟩ := h
  exact ⟨D, ⟨es, clock, by rw [hg.block b hlt hn]; exact h1, h2⟩, h3⟩
/-- What the encoding keeps. -/
def encI (fw rw_ : List (Int × Nat × Nat)) (n1 s1 n2 s2 b1 b2 f r m g B : Nat) (W : World) (F : Nat → Prop) (acc : List (Bool × Int × Int × Int)) : Prop :=
  ∃ D P vd vp, Wr B g D P vd vp W ∧ MapF W b1 n1 (symF fw) s1 ∧ MapF W b2 n2 (symF rw_) s2 ∧ Blk W f [.map (some b1)] 82 ∧ Blk W r [.map (some b2)] 82 ∧ Blk W m [.bool (!decide (AllW fw rw_ acc))] 4 ∧
    (AllW fw rw_ acc → unpack D ++ fieldBits P = segBits fw rw_ acc) ∧ (unpack D ++ fieldBits P).length ≤ 40 * acc.length ∧ F = fun q => q = m ∨ wrF g vd vp q

set_option maxRecDepth 100000 in
set_option maxHeartbeats 4000000 in
theorem enc_true (fw rw_ : List (Int × Nat × Nat)) (n1 s1 n2 s2 b1 b2 f r m g B : Nat) (hpf : PF fw) (t : Int × Int × Int) (W : World) (F : Nat → Prop) (acc : List (Bool × Int × Int × Int)) (h : encI fw rw_ n1 s1 n2 s2 b1 b2 f r m g B W F acc) (hacc : acc.length < 25600) (hgt : goodT t) (hf : f < g) (hr : r < g) (hb1 : b1 < g) (hb2 : b2 < g) (hgm : g < m) (hmB : m < B) :
    Calls Tryz.prog 43 #[tokV t, .bool true, .pointer (some ⟨r, 0, none⟩), .pointer (some ⟨f, 0, none⟩), .pointer (some ⟨m, 0, none⟩), .pointer (some ⟨g, 0, none⟩)] W fun e W' => e = .returned (.tuple #[]) ∧ ∃ F', encI fw rw_ n1 s1 n2 s2 b1 b2 f r m g B W' F' (acc ++ [(true, t)]) ∧ Only F W W' ∧ ∀ q, F' q → F q ∨ W.heap.size ≤ q := by
  obtain ⟨D, P, vd, vp, hW, hM1, hM2, hf0, hr0, hm0, hbits, hlen, rfl⟩ := h
  obtain ⟨t0, t1, t2⟩ := t
  have hgl := hW.blk.lt
  have hml := hm0.lt
  have hft := fun (q : Nat) (hq : wrF g vd vp q) => hW.foot hq
  have hbk := below1 W (.cells #[.int .i64 t0, .int .i64 t1, .int .i64 t2] 73)
  have hz1 : (W.alloc (.cells #[.int .i64 t0, .int .i64 t1, .int .i64 t2] 73)).heap.size = W.heap.size + 1 := by simp
  have hM1a := hM1.below hbk (by omega)
  have hM2a := hM2.below hbk (by omega)
  have cf := (hf0.below hbk (by omega)).cell (i := 0) (v := .map (some b1)) rfl
  have cr := (hr0.below hbk (by omega)).cell (i := 0) (v := .map (some b2)) rfl
  have hB1 : Blk (W.alloc (.cells #[.int .i64 t0, .int .i64 t1, .int .i64 t2] 73)) W.heap.size [.int .i64 t0, .int .i64 t1, .int .i64 t2] 73 := Blk.new W [.int .i64 t0, .int .i64 t1, .int .i64 t2] 73
  have hgf := goodT_fit hgt
  have hwx : WF t0 := wf_of (by have := hgt.2; simp only at this; omega)
  have Hwx := veil hwx
  have Hgt := veil hgt
  have Hnm : Hid (¬ wrF g vd vp m) := fun h => by
    rcases h with h | h | h
    · omega
    · have := (hW.own.head.lt m h).1; omega
    · have := (hW.own.tail.head.lt m h).1; omega
  cases hq : symF fw t0 with
  | none =>
    have hno : ¬ AllW fw rw_ (acc ++ [(true, t0, t1, t2)]) := fun h => by
      have h2 := (allW_snoc.1 h).2
      have h3 : (symF fw t0).isSome = true := h2
      rw [hq] at h3; cases h3
    have hbk2 := below1 (W.alloc (.cells #[.int .i64 t0, .int .i64 t1, .int .i64 t2] 73)) (.cells #[.int .i64 0, .int .i64 0] 89)
    have hbk3 := hbk.trans (hbk2.mono (by omega))
    have hm3 := hm0.below hbk3 hml
    have cm := hm3.cell (i := 0) (v := .bool (!decide (AllW fw rw_ acc))) rfl
    have zm := hm3.frozen 0
    have hg3 := grown_setCell W m 0 (.bool true)
    have hzs : (W.setCell ⟨m, 0, none⟩ (.bool true)).heap.size = W.heap.size := by simp [World.setCell]
    have hbn := below2 (W.setCell ⟨m, 0, none⟩ (.bool true)) (.cells #[.int .i64 t0, .int .i64 t1, .int .i64 t2] 73) (.cells #[.int .i64 0, .int .i64 0] 89)
    have hres : Hid (∃ F', encI fw rw_ n1 s1 n2 s2 b1 b2 f r m g B (((W.setCell ⟨m, 0, none⟩ (.bool true)).alloc (.cells #[.int .i64 t0, .int .i64 t1, .int .i64 t2] 73)).alloc (.cells #[.int .i64 0, .int .i64 0] 89)) F' (acc ++ [(true, t0, t1, t2)]) ∧ Only (fun q => q = m ∨ wrF g vd vp q) W (((W.setCell ⟨m, 0, none⟩ (.bool true)).alloc (.cells #[.int .i64 t0, .int .i64 t1, .int .i64 t2] 73)).alloc (.cells #[.int .i64 0, .int .i64 0] 89)) ∧ ∀ q, F' q → (q = m ∨ wrF g vd vp q) ∨ W.heap.size ≤ q) := by
      refine ⟨fun q => q = m ∨ wrF g vd vp q, ⟨D, P, vd, vp, (hW.only (Only.of_grown hg3 (F := fun q => q = m) (fun q e => by injection e with e; exact .inl e.symm)) (fun q hq e => Hnm.out (e ▸ hq))).below hbn, (hM1.kept hg3 (by omega)).below hbn (by rw [hzs]; omega), (hM2.kept hg3 (by omega)).below hbn (by rw [hzs]; omega), (hf0.kept hg3 (by simp; omega)).below hbn (by rw [hzs]; omega), (hr0.kept hg3 (by simp; omega)).below hbn (by rw [hzs]; omega), ?_, fun h => absurd h hno, ?_, rfl⟩, ?_, fun q h => .inl h⟩
      · have := (hm0.set 0 (.bool true)).below hbn (by rw [hzs]; omega)
        rw [decide_eq_false hno]; exact this
      · have h9 : (acc ++ [(true, t0, t1, t2)]).length = acc.length + 1 := by simp
        rw [h9]; omega
      · exact (Only.of_grown hg3 (F := fun q => q = m ∨ wrF g vd vp q) (fun q e => by injection e with e; exact .inl (.inl e.symm))).trans (Only.of_below hbn (Nat.le_refl _) : Only (fun _ => False) _ _) (fun q h => h.elim)
    have Hq := veil hq
    clear hzs hbn hno hbk2 hbk3 hm3 hg3 hW hM1 hM2 hf0 hr0 hm0 hbits hlen hft hbk hgf hgt hwx hq
    unfold tokV
    go_enter Tryz.func43, Tryz.ntmps43
    go_wp2_with (first
      | (at_lookup; refine wpList_lookF _ rfl (.tmp 15) (.tmp 17) rfl b1 n1 (symF fw) s1 rfl hM1a t0 rfl Hwx.out (0, 0) false (by rw [Hq.out]; rfl) (by rw [Hq.out]; rfl) ?_)
      | fail)
    exact bodyPost_ret (results_none (fn := Tryz.f43) rfl _ _ _) rfl ⟨rfl, hres.out⟩
  | some p =>
    obtain ⟨p1, p2⟩ := p
    have hok := sym_ok hpf hq
    have hok2 := good_ok hgt
    have hbk2 := below1 (W.alloc (.cells #[.int .i64 t0, .int .i64 t1, .int .i64 t2] 73)) (.cells #[.int .i64 p1, .int .i64 p2] 89)
    have hbk3 := hbk.trans (hbk2.mono (by omega))
    have hW3 := hW.below hbk3
    have hDl : D.length ≤ 200000 := by rw [List.length_append, unpack_length] at hlen; omega
    have HA := veil (add_any B g D P vd vp p1 p2 _ hW3 hok (by omega))
    have hM13 := hM1.below hbk3 (by omega)
    have hM23 := hM2.below hbk3 (by omega)
    have hf3 := hf0.below hbk3 (by omega)
    have hr3 := hr0.below hbk3 (by omega)
    have hm3 := hm0.below hbk3 hml
    have hB3 := hB1.below hbk2 (by omega)
    have hz3 : ((W.alloc (.cells #[.int .i64 t0, .int .i64 t1, .int .i64 t2] 73)).alloc (.cells #[.int .i64 p1, .int .i64 p2] 89)).heap.size = W.heap.size + 2 := by simp
    have hon3 : Only (fun _ => False) W ((W.alloc (.cells #[.int .i64 t0, .int .i64 t1, .int .i64 t2] 73)).alloc (.cells #[.int .i64 p1, .int .i64 p2] 89)) := Only.of_below hbk3 (Nat.le_refl _)
    have Hq := veil hq
    have Hbits := veil hbits
    have HM13 := veil hM13; have HM23 := veil hM23; have Hf3 := veil hf3; have Hr3 := veil hr3; have Hm3 := veil hm3; have HB3 := veil hB3; have Hon3 := veil hon3; have Hft := veil hft; have Hlen := veil hlen; have Hok2 := veil hok2; have Hok := veil hok; have Hpf := veil hpf
    clear hbk2 hbk3 hW hM1 hM2 hf0 hr0 hm0 hbits hlen hft hbk hgf hgt hwx hq hok hok2 hW3 hM13 hM23 hf3 hr3 hm3 hB3 hon3 hpf
    unfold tokV
    go_enter Tryz.func43, Tryz.ntmps43
    go_wp2_with (first
      | (at_lookup; refine wpList_lookF _ rfl (.tmp 15) (.tmp 17) rfl b1 n1 (symF fw) s1 rfl hM1a t0 rfl Hwx.out (p1, p2) true (by rw [Hq.out]; rfl) (by rw [Hq.out]; rfl) ?_)
      | fail)
    refine HA.out.mono ?_
    rintro e w4 ⟨rfl, D4, P4, vd4, vp4, hW4, hb4, hon4, hsub4⟩
    have hz4 := hon4.size
    rw [hz3] at hz4 hsub4
    have hnw : ∀ q, q < g → ¬ wrF g vd vp q := fun q hq h => by have := (Hft.out q h).2; omega
    have hnw2 : ∀ q, W.heap.size ≤ q → ¬ wrF g vd vp q := fun q hq h => by have := (Hft.out q h).1; omega
    have hnm := Hnm.out
    have hT4 := hon4.blk HB3.out (hnw2 _ (Nat.le_refl _))
    have k1 := hT4.cell (i := 1) (v := .int .i64 t1) rfl
    have k2 := hT4.cell (i := 2) (v := .int .i64 t2) rfl
    have hl4 := congrArg List.length hb4
    rw [show (unpack D ++ fieldBits P ++ bitsN p1.toNat p2.toNat).length = (unpack D ++ fieldBits P).length + (bitsN p1.toNat p2.toNat).length from List.length_append, bitsN_length] at hl4
    have hp16 : p1.toNat ≤ 24 := by have := Hok.out.1; simp only at this; omega
    have hlen4 := Hlen.out
    have hD4 : D4.length ≤ 1000000 := by
      have h9 : (unpack D4 ++ fieldBits P4).length = 8 * D4.length + (fieldBits P4).length := by rw [List.length_append, unpack_length]
      omega
    have HA2 := veil (add_any B g D4 P4 vd4 vp4 t1 t2 w4 hW4 Hok2.out hD4)
    have Hnm4 : Hid (¬ wrF g vd4 vp4 m) := fun h => by
      rcases h with h | h | h
      · omega
      · have := (hW4.own.head.lt m h).1; omega
      · have := (hW4.own.tail.head.lt m h).1; omega
    have hnw4 : ∀ q, q < g → ¬ wrF g vd4 vp4 q := fun q hq h => by have := (hW4.foot h).2; omega
    have HM14 := veil (HM13.out.only hon4 (hnw _ hb1)); have HM24 := veil (HM23.out.only hon4 (hnw _ hb2)); have Hf4 := veil (hon4.blk Hf3.out (hnw _ hf)); have Hr4 := veil (hon4.blk Hr3.out (hnw _ hr)); have Hm4 := veil (hon4.blk Hm3.out hnm)
    have Hnw4 := veil hnw4; have Hon4 := veil hon4; have Hsub4 := veil hsub4; have Hb4 := veil hb4; have Hl4 := veil hl4
    have Hlen4 := veil hlen4
    clear HA hW4 hb4 hl4 hnw4 hon4 hsub4 hT4 hnm hlen4 hD4
    go_wp2_with fail
    refine HA2.out.mono ?_
    rintro e w5 ⟨rfl, D5, P5, vd5, vp5, hW5, hb5, hon5, hsub5⟩
    have hm5 := hon5.blk Hm4.out Hnm4.out
    have hiff : AllW fw rw_ (acc ++ [(true, t0, t1, t2)]) ↔ AllW fw rw_ acc := by
      rw [allW_snoc]
      have h3 : (symF fw t0).isSome = true := by rw [Hq.out]; rfl
      exact ⟨fun h => h.1, fun h => ⟨h, h3⟩⟩
    have hdec : (!decide (AllW fw rw_ (acc ++ [(true, t0, t1, t2)]))) = (!decide (AllW fw rw_ acc)) := by rw [decide_eq_decide.2 hiff]
    have hlen5 : (unpack D5 ++ fieldBits P5).length ≤ 40 * (acc ++ [(true, t0, t1, t2)]).length := by
      have h9 : (acc ++ [(true, t0, t1, t2)]).length = acc.length + 1 := by simp
      have h8 := congrArg List.length hb5
      rw [show (unpack D4 ++ fieldBits P4 ++ bitsN t1.toNat t2.toNat).length = (unpack D4 ++ fieldBits P4).length + (bitsN t1.toNat t2.toNat).length from List.length_append, bitsN_length] at h8
      have h7 : t1.toNat ≤ 12 := by have := (goodT_fit Hgt.out).1; simp only at this; omega
      have h6 := Hl4.out
      have h5 := Hlen4.out
      have h4 : p1.toNat ≤ 16 := sym_short Hpf.out Hq.out
      rw [h9]; omega
    have hbits5 : AllW fw rw_ (acc ++ [(true, t0, t1, t2)]) → unpack D5 ++ fieldBits P5 = segBits fw rw_ (acc ++ [(true, t0, t1, t2)]) := fun h => by
      have h2 := Hbits.out (hiff.1 h)
      rw [hb5, Hb4.out, h2, segBits_append, segBits_one]
      show _ = segBits fw rw_ acc ++ (symBits fw t0 ++ bitsN t1.toNat t2.toNat)
      unfold symBits
      rw [Hq.out, List.append_assoc]; rfl
    have hsub6 : ∀ q, (q = m ∨ wrF g vd5 vp5 q) → (q = m ∨ wrF g vd vp q) ∨ W.heap.size ≤ q := fun q hq => by
      rcases hq with h | h
      · exact .inl (.inl h)
      · rcases hsub5 q h with h | h
        · rcases Hsub4.out q h with h | h
          · exact .inl (.inr h)
          · right; omega
        · right; omega
    have hon6 : Only (fun q => q = m ∨ wrF g vd vp q) W w5 := ((((Hon3.out.mono (fun q h => h.elim) : Only (fun q => q = m ∨ wrF g vd vp q) W _)).trans Hon4.out (fun q h => .inl (.inr h)))).trans hon5 (fun q h => by
      rcases Hsub4.out q h with h | h
      · exact .inl (.inr h)
      · right; omega)
    have hres : Hid (∃ F', encI fw rw_ n1 s1 n2 s2 b1 b2 f r m g B w5 F' (acc ++ [(true, t0, t1, t2)]) ∧ Only (fun q => q = m ∨ wrF g vd vp q) W w5 ∧ ∀ q, F' q → (q = m ∨ wrF g vd vp q) ∨ W.heap.size ≤ q) :=
      ⟨fun q => q = m ∨ wrF g vd5 vp5 q, ⟨D5, P5, vd5, vp5, hW5, HM14.out.only hon5 (Hnw4.out _ hb1), HM24.out.only hon5 (Hnw4.out _ hb2), hon5.blk Hf4.out (Hnw4.out _ hf), hon5.blk Hr4.out (Hnw4.out _ hr), by rw [hdec]; exact hm5, hbits5, hlen5, rfl⟩, hon6, hsub6⟩
    clear hW5 hb5 hon5 hsub5 hm5 hiff hdec hlen5 hbits5 hsub6 hon6 k1 k2
    go_wp2_with fail
    go_end0
    exact ⟨rfl, hres.out⟩

set_option maxRecDepth 100000 in
set_option maxHeartbeats 4000000 in
theorem enc_false (fw rw_ : List (Int × Nat × Nat)) (n1 s1 n2 s2 b1 b2 f r m g B : Nat) (hpf : PF rw_) (t : Int × Int × Int) (W : World) (F : Nat → Prop) (acc : List (Bool × Int × Int × Int)) (h : encI fw rw_ n1 s1 n2 s2 b1 b2 f r m g B W F acc) (hacc : acc.length < 25600) (hgt : goodT t) (hf : f < g) (hr : r < g) (hb1 : b1 < g) (hb2 : b2 < g) (hgm : g < m) (hmB : m < B) :
    Calls Tryz.prog 43 #[tokV t, .bool false, .pointer (some ⟨r, 0, none⟩), .pointer (some ⟨f, 0, none⟩), .pointer (some ⟨m, 0, none⟩), .pointer (some ⟨g, 0, none⟩)] W fun e W' => e = .returned (.tuple #[]) ∧ ∃ F', encI fw rw_ n1 s1 n2 s2 b1 b2 f r m g B W' F' (acc ++ [(false, t)]) ∧ Only F W W' ∧ ∀ q, F' q → F q ∨ W.heap.size ≤ q := by
  obtain ⟨D, P, vd, vp, hW, hM1, hM2, hf0, hr0, hm0, hbits, hlen, rfl⟩ := h
  obtain ⟨t0, t1, t2⟩ := t
  have hgl := hW.blk.lt
  have hml := hm0.lt
  have hft := fun (q : Nat) (hq : wrF g vd vp q) => hW.foot hq
  have hbk := below1 W (.cells #[.int .i64 t0, .int .i64 t1, .int .i64 t2] 73)
  have hz1 : (W.alloc (.cells #[.int .i64 t0, .int .i64 t1, .int .i64 t2] 73)).heap.size = W.heap.size + 1 := by simp
  have hM1a := hM1.below hbk (by omega)
  have hM2a := hM2.below hbk (by omega)
  have cf := (hf0.below hbk (by omega)).cell (i := 0) (v := .map (some b1)) rfl
  have cr := (hr0.below hbk (by omega)).cell (i := 0) (v := .map (some b2)) rfl
  have hB1 : Blk (W.alloc (.cells #[.int .i64 t0, .int .i64 t1, .int .i64 t2] 73)) W.heap.size [.int .i64 t0, .int .i64 t1, .int .i64 t2] 73 := Blk.new W [.int .i64 t0, .int .i64 t1, .int .i64 t2] 73
  have hgf := goodT_fit hgt
  have hwx : WF t0 := wf_of (by have := hgt.2; simp only at this; omega)
  have Hwx := veil hwx
  have Hgt := veil hgt
  have Hnm : Hid (¬ wrF g vd vp m) := fun h => by
    rcases h with h | h | h
    · omega
    · have := (hW.own.head.lt m h).1; omega
    · have := (hW.own.tail.head.lt m h).1; omega
  cases hq : symF rw_ t0 with
  | none =>
    have hno : ¬ AllW fw rw_ (acc ++ [(false, t0, t1, t2)]) := fun h => by
      have h2 := (allW_snoc.1 h).2
      have h3 : (symF rw_ t0).isSome = true := h2
      rw [hq] at h3; cases h3
    have hbk2 := below1 (W.alloc (.cells #[.int .i64 t0, .int .i64 t1, .int .i64 t2] 73)) (.cells #[.int .i64 0, .int .i64 0] 89)
    have hbk3 := hbk.trans (hbk2.mono (by omega))
    have hm3 := hm0.below hbk3 hml
    have cm := hm3.cell (i := 0) (v := .bool (!decide (AllW fw rw_ acc))) rfl
    have zm := hm3.frozen 0
    have hg3 := grown_setCell W m 0 (.bool true)
    have hzs : (W.setCell ⟨m, 0, none⟩ (.bool true)).heap.size = W.heap.size := by simp [World.setCell]
    have hbn := below2 (W.setCell ⟨m, 0, none⟩ (.bool true)) (.cells #[.int .i64 t0, .int .i64 t1, .int .i64 t2] 73) (.cells #[.int .i64 0, .int .i64 0] 89)
    have hres : Hid (∃ F', encI fw rw_ n1 s1 n2 s2 b1 b2 f r m g B (((W.setCell ⟨m, 0, none⟩ (.bool true)).alloc (.cells #[.int .i64 t0, .int .i64 t1, .int .i64 t2] 73)).alloc (.cells #[.int .i64 0, .int .i64 0] 89)) F' (acc ++ [(false, t0, t1, t2)]) ∧ Only (fun q => q = m ∨ wrF g vd vp q) W (((W.setCell ⟨m, 0, none⟩ (.bool true)).alloc (.cells #[.int .i64 t0, .int .i64 t1, .int .i64 t2] 73)).alloc (.cells #[.int .i64 0, .int .i64 0] 89)) ∧ ∀ q, F' q → (q = m ∨ wrF g vd vp q) ∨ W.heap.size ≤ q) := by
      refine ⟨fun q => q = m ∨ wrF g vd vp q, ⟨D, P, vd, vp, (hW.only (Only.of_grown hg3 (F := fun q => q = m) (fun q e => by injection e with e; exact .inl e.symm)) (fun q hq e => Hnm.out (e ▸ hq))).below hbn, (hM1.kept hg3 (by omega)).below hbn (by rw [hzs]; omega), (hM2.kept hg3 (by omega)).below hbn (by rw [hzs]; omega), (hf0.kept hg3 (by simp; omega)).below hbn (by rw [hzs]; omega), (hr0.kept hg3 (by simp; omega)).below hbn (by rw [hzs]; omega), ?_, fun h => absurd h hno, ?_, rfl⟩, ?_, fun q h => .inl h⟩
      · have := (hm0.set 0 (.bool true)).below hbn (by rw [hzs]; omega)
        rw [decide_eq_false hno]; exact this
      · have h9 : (acc ++ [(false, t0, t1, t2)]).length = acc.length + 1 := by simp
        rw [h9]; omega
      · exact (Only.of_grown hg3 (F := fun q => q = m ∨ wrF g vd vp q) (fun q e => by injection e with e; exact .inl (.inl e.symm))).trans (Only.of_below hbn (Nat.le_refl _) : Only (fun _ => False) _ _) (fun q h => h.elim)
    have Hq := veil hq
    clear hzs hbn hno hbk2 hbk3 hm3 hg3 hW hM1 hM2 hf0 hr0 hm0 hbits hlen hft hbk hgf hgt hwx hq
    unfold tokV
    go_enter Tryz.func43, Tryz.ntmps43
    go_wp2_with (first
      | (at_lookup; refine wpList_lookF _ rfl (.tmp 15) (.tmp 17) rfl b2 n2 (symF rw_) s2 rfl hM2a t0 rfl Hwx.out (0, 0) false (by rw [Hq.out]; rfl) (by rw [Hq.out]; rfl) ?_)
      | fail)
    exact bodyPost_ret (results_none (fn := Tryz.f43) rfl _ _ _) rfl ⟨rfl, hres.out⟩
  | some p =>
    obtain ⟨p1, p2⟩ := p
    have hok := sym_ok hpf hq
    have hok2 := good_ok hgt
    have hbk2 := below1 (W.alloc (.cells #[.int .i64 t0, .int .i64 t1, .int .i64 t2] 73)) (.cells #[.int .i64 p1, .int .i64 p2] 89)
    have hbk3 := hbk.trans (hbk2.mono (by omega))
    have hW3 := hW.below hbk3
    have hDl : D.length ≤ 200000 := by rw [List.length_append, unpack_length] at hlen; omega
    have HA := veil (add_any B g D P vd vp p1 p2 _ hW3 hok (by omega))
    have hM13 := hM1.below hbk3 (by omega)
    have hM23 := hM2.below hbk3 (by omega)
    have hf3 := hf0.below hbk3 (by omega)
    have hr3 := hr0.below hbk3 (by omega)
    have hm3 := hm0.below hbk3 hml
    have hB3 := hB1.below hbk2 (by omega)
    have hz3 : ((W.alloc (.cells #[.int .i64 t0, .int .i64 t1, .int .i64 t2] 73)).alloc (.cells #[.int .i64 p1, .int .i64 p2] 89)).heap.size = W.heap.size + 2 := by simp
    have hon3 : Only (fun _ => False) W ((W.alloc (.cells #[.int .i64 t0, .int .i64 t1, .int .i64 t2] 73)).alloc (.cells #[.int .i64 p1, .int .i64 p2] 89)) := Only.of_below hbk3 (Nat.le_refl _)
    have Hq := veil hq
    have Hbits := veil hbits
    have HM13 := veil hM13; have HM23 := veil hM23; have Hf3 := veil hf3; have Hr3 := veil hr3; have Hm3 := veil hm3; have HB3 := veil hB3; have Hon3 := veil hon3; have Hft := veil hft; have Hlen := veil hlen; have Hok2 := veil hok2; have Hok := veil hok; have Hpf := veil hpf
    clear hbk2 hbk3 hW hM1 hM2 hf0 hr0 hm0 hbits hlen hft hbk hgf hgt hwx hq hok hok2 hW3 hM13 hM23 hf3 hr3 hm3 hB3 hon3 hpf
    unfold tokV
    go_enter Tryz.func43, Tryz.ntmps43
    go_wp2_with (first
      | (at_lookup; refine wpList_lookF _ rfl (.tmp 15) (.tmp 17) rfl b2 n2 (symF rw_) s2 rfl hM2a t0 rfl Hwx.out (p1, p2) true (by rw [Hq.out]; rfl) (by rw [Hq.out]; rfl) ?_)
      | fail)
    refine HA.out.mono ?_
    rintro e w4 ⟨rfl, D4, P4, vd4, vp4, hW4, hb4, hon4, hsub4⟩
    have hz4 := hon4.size
    rw [hz3] at hz4 hsub4
    have hnw : ∀ q, q < g → ¬ wrF g vd vp q := fun q hq h => by have := (Hft.out q h).2; omega
    have hnw2 : ∀ q, W.heap.size ≤ q → ¬ wrF g vd vp q := fun q hq h => by have := (Hft.out q h).1; omega
    have hnm := Hnm.out
    have hT4 := hon4.blk HB3.out (hnw2 _ (Nat.le_refl _))
    have k1 := hT4.cell (i := 1) (v := .int .i64 t1) rfl
    have k2 := hT4.cell (i := 2) (v := .int .i64 t2) rfl
    have hl4 := congrArg List.length hb4
    rw [show (unpack D ++ fieldBits P ++ bitsN p1.toNat p2.toNat).length = (unpack D ++ fieldBits P).length + (bitsN p1.toNat p2.toNat).length from List.length_append, bitsN_length] at hl4
    have hp16 : p1.toNat ≤ 24 := by have := Hok.out.1; simp only at this; omega
    have hlen4 := Hlen.out
    have hD4 : D4.length ≤ 1000000 := by
      have h9 : (unpack D4 ++ fieldBits P4).length = 8 * D4.length + (fieldBits P4).length := by rw [List.length_append, unpack_length]
      omega
    have HA2 := veil (add_any B g D4 P4 vd4 vp4 t1 t2 w4 hW4 Hok2.out hD4)
    have Hnm4 : Hid (¬ wrF g vd4 vp4 m) := fun h => by
      rcases h with h | h | h
      · omega
      · have := (hW4.own.head.lt m h).1; omega
      · have := (hW4.own.tail.head.lt m h).1; omega
    have hnw4 : ∀ q, q < g → ¬ wrF g vd4 vp4 q := fun q hq h => by have := (hW4.foot h).2; omega
    have HM14 := veil (HM13.out.only hon4 (hnw _ hb1)); have HM24 := veil (HM23.out.only hon4 (hnw _ hb2)); have Hf4 := veil (hon4.blk Hf3.out (hnw _ hf)); have Hr4 := veil (hon4.blk Hr3.out (hnw _ hr)); have Hm4 := veil (hon4.blk Hm3.out hnm)
    have Hnw4 := veil hnw4; have Hon4 := veil hon4; have Hsub4 := veil hsub4; have Hb4 := veil hb4; have Hl4 := veil hl4
    have Hlen4 := veil hlen4
    clear HA hW4 hb4 hl4 hnw4 hon4 hsub4 hT4 hnm hlen4 hD4
    go_wp2_with fail
    refine HA2.out.mono ?_
    rintro e w5 ⟨rfl, D5, P5, vd5, vp5, hW5, hb5, hon5, hsub5⟩
    have hm5 := hon5.blk Hm4.out Hnm4.out
    have hiff : AllW fw rw_ (acc ++ [(false, t0, t1, t2)]) ↔ AllW fw rw_ acc := by
      rw [allW_snoc]
      have h3 : (symF rw_ t0).isSome = true := by rw [Hq.out]; rfl
      exact ⟨fun h => h.1, fun h => ⟨h, h3⟩⟩
    have hdec : (!decide (AllW fw rw_ (acc ++ [(false, t0, t1, t2)]))) = (!decide (AllW fw rw_ acc)) := by rw [decide_eq_decide.2 hiff]
    have hlen5 : (unpack D5 ++ fieldBits P5).length ≤ 40 * (acc ++ [(false, t0, t1, t2)]).length := by
      have h9 : (acc ++ [(false, t0, t1, t2)]).length = acc.length + 1 := by simp
      have h8 := congrArg List.length hb5
      rw [show (unpack D4 ++ fieldBits P4 ++ bitsN t1.toNat t2.toNat).length = (unpack D4 ++ fieldBits P4).length + (bitsN t1.toNat t2.toNat).length from List.length_append, bitsN_length] at h8
      have h7 : t1.toNat ≤ 12 := by have := (goodT_fit Hgt.out).1; simp only at this; omega
      have h6 := Hl4.out
      have h5 := Hlen4.out
      have h4 : p1.toNat ≤ 16 := sym_short Hpf.out Hq.out
      rw [h9]; omega
    have hbits5 : AllW fw rw_ (acc ++ [(false, t0, t1, t2)]) → unpack D5 ++ fieldBits P5 = segBits fw rw_ (acc ++ [(false, t0, t1, t2)]) := fun h => by
      have h2 := Hbits.out (hiff.1 h)
      rw [hb5, Hb4.out, h2, segBits_append, segBits_one]
      show _ = segBits fw rw_ acc ++ (symBits rw_ t0 ++ bitsN t1.toNat t2.toNat)
      unfold symBits
      rw [Hq.out, List.append_assoc]; rfl
    have hsub6 : ∀ q, (q = m ∨ wrF g vd5 vp5 q) → (q = m ∨ wrF g vd vp q) ∨ W.heap.size ≤ q := fun q hq => by
      rcases hq with h | h
      · exact .inl (.inl h)
      · rcases hsub5 q h with h | h
        · rcases Hsub4.out q h with h | h
          · exact .inl (.inr h)
          · right; omega
        · right; omega
    have hon6 : Only (fun q => q = m ∨ wrF g vd vp q) W w5 := ((((Hon3.out.mono (fun q h => h.elim) : Only (fun q => q = m ∨ wrF g vd vp q) W _)).trans Hon4.out (fun q h => .inl (.inr h)))).trans hon5 (fun q h => by
      rcases Hsub4.out q h with h | h
      · exact .inl (.inr h)
      · right; omega)
    have hres : Hid (∃ F', encI fw rw_ n1 s1 n2 s2 b1 b2 f r m g B w5 F' (acc ++ [(false, t0, t1, t2)]) ∧ Only (fun q => q = m ∨ wrF g vd vp q) W w5 ∧ ∀ q, F' q → (q = m ∨ wrF g vd vp q) ∨ W.heap.size ≤ q) :=
      ⟨fun q => q = m ∨ wrF g vd5 vp5 q, ⟨D5, P5, vd5, vp5, hW5, HM14.out.only hon5 (Hnw4.out _ hb1), HM24.out.only hon5 (Hnw4.out _ hb2), hon5.blk Hf4.out (Hnw4.out _ hf), hon5.blk Hr4.out (Hnw4.out _ hr), by rw [hdec]; exact hm5, hbits5, hlen5, rfl⟩, hon6, hsub6⟩
    clear hW5 hb5 hon5 hsub5 hm5 hiff hdec hlen5 hbits5 hsub6 hon6 k1 k2
    go_wp2_with fail
    go_end0
    exact ⟨rfl, hres.out⟩
end Go.Proofs.YtddkhkpdbjjboaaGreat

/- Two tables in one value; the reference's TablesCheck: its contract. -/
namespace Go.Proofs.YtddkhkpdbjjboaaGreat
open Go.RowKit
set_option linter.unusedVariables false
set_option linter.unusedSimpArgs false
set_option maxRecDepth 100000

/-- Two tables' cells. -/
def tabsCells (cs : List Int) (A : Option Addr) (n c : Nat) (cs2 : List Int) (A2 : Option Addr) (n2 c2 : Nat) : List Value := tabCells cs A n c ++ tabCells cs2 A2 n2 c2
abbrev tabsV (cs : List Int) (A : Option Addr) (n c : Nat) (cs2 : List Int) (A2 : Option Addr) (n2 c2 : Nat) : Value := .agg (tabsCells cs A n c cs2 A2 n2 c2).toArray
/-- What a check of both answers. -/
def eTs (cs syms cs2 syms2 : List Int) : Int := if checkErr cs syms = 0 then checkErr cs2 syms2 else checkErr cs syms
theorem range_right {w : World} {b o : Nat} {xs ys : List Value} (h : w.rangeAt b o (xs ++ ys)) : w.rangeAt b (o + xs.length) ys := fun j v hv => by
  have := h (xs.length + j) v (by rw [List.getElem?_append_right (by omega), Nat.add_sub_cancel_left]; exact hv)
  rw [Nat.add_assoc]; exact this
set_option maxRecDepth 100000 in
set_option maxHeartbeats 2000000 in
theorem tablesCheck_any (cs syms : List Int) (A : Option Addr) (c : Nat) (cs2 syms2 : List Int) (A2 : Option Addr) (c2 G : Nat) (w : World)
    (hcs : cs.length = 16) (hn : syms.length ≤ maxLen) (hcap : syms.length ≤ c) (hb : ∀ x ∈ cs, -9223372036854775808 ≤ x ∧ x ≤ 9223372036854775807) (hs : Seen w G A (ints .i64 syms))
    (hcs2 : cs2.length = 16) (hn2 : syms2.length ≤ maxLen) (hcap2 : syms2.length ≤ c2) (hb2 : ∀ x ∈ cs2, -9223372036854775808 ≤ x ∧ x ≤ 9223372036854775807) (hs2 : Seen w G A2 (ints .i64 syms2)) (hG : G ≤ w.heap.size) :
    Calls Tryz.prog 30 #[tabsV cs A syms.length c cs2 A2 syms2.length c2] w fun e w' => e = .returned (.int .i64 (eTs cs syms cs2 syms2)) ∧ Below w.heap.size w w' := by
  have h17 : (tabCells cs A syms.length c).length = 17 := tabCells_length hcs
  have h17b : (tabCells cs2 A2 syms2.length c2).length = 17 := tabCells_length hcs2
  have HC1 := veil (fun W h hG => refCheck_any cs syms A c G W hcs hn hcap hb h hG)
  have HC2 := veil (fun W h hG => refCheck_any cs2 syms2 A2 c2 G W hcs2 hn2 hcap2 hb2 h hG)
  have hb0 := below1 w (.cells (tabsCells cs A syms.length c cs2 A2 syms2.length c2).toArray 27)
  have hz0 : (w.alloc (.cells (tabsCells cs A syms.length c cs2 A2 syms2.length c2).toArray 27)).heap.size = w.heap.size + 1 := by simp
  have hr := range_new w (tabsCells cs A syms.length c cs2 A2 syms2.length c2) 27
  have hr1 := range_left hr
  have hr2 := range_right hr
  rw [h17] at hr2
  have HE : Hid (eTs cs syms cs2 syms2 = if checkErr cs syms = 0 then checkErr cs2 syms2 else checkErr cs syms) := rfl
  have H17 := veil h17
  have H17b := veil h17b
  clear hr h17 h17b hcs hcs2 hb hb2
  unfold tabsV
  unfold tabV at HC1 HC2
  generalize tabsCells cs A syms.length c cs2 A2 syms2.length c2 = zs at *
  generalize tabCells cs A syms.length c = xs at *
  generalize tabCells cs2 A2 syms2.length c2 = ys at *
  generalize eTs cs syms cs2 syms2 = E at *
  generalize checkErr cs syms = e1 at *
  generalize checkErr cs2 syms2 = e2 at *
  go_enter Tryz.func30, Tryz.ntmps30
  go_wp2_with (first
    | (refine wpList_load_mid rfl 25 (.tmp 4) rfl w.heap.size 0 rfl xs _ hr1 Tryz.underlying25 rfl (by rw [H17.out]; exact info_tab) ?_)
    | fail)
  refine (HC1.out _ (hs.below hb0 hG) (by rw [hz0]; omega)).mono ?_
  rintro e w1 ⟨rfl, hb1⟩
  have hr2' := range_below hr2 hb1 (by rw [hz0]; omega)
  have hbw := hb0.trans (hb1.mono (by rw [hz0]; omega))
  clear hr1 hr2 hb0 hb1 HC1
  by_cases h0 : e1 = 0
  · subst h0
    have hE := HE.out
    rw [if_pos rfl] at hE
    subst hE
    go_wp2_with (first
      | (refine wpList_load_mid rfl 25 (.tmp 10) rfl w.heap.size 17 rfl ys _ (by simpa using hr2') Tryz.underlying25 rfl (by rw [H17b.out]; exact info_tab) ?_)
      | fail)
    refine (HC2.out _ (hs2.below hbw hG) (by have := hbw.size; omega)).mono ?_
    rintro e w2 ⟨rfl, hb2⟩
    have hf := hbw.trans (hb2.mono hbw.size)
    go_wp2
    go_ret
    exact ⟨rfl, hf⟩
  · have hE := HE.out
    rw [if_neg h0] at hE
    subst hE
    have hne : (E != 0) = true := by simpa using h0
    clear h0
    go_wp2
    go_ret
    exact ⟨rfl, hbw⟩
end Go.Proofs.YtddkhkpdbjjboaaGreat

/- Blocks out of bits, in numbers: what is read lies within its bounds; a reading under way. -/
namespace Go.Proofs.YtddkhkpdbjjboaaGreat
set_option linter.unusedVariables false
set_option linter.unusedSimpArgs false
set_option maxRecDepth 100000

section
variable {σ : Type} {step : Bool → σ → Int ⊕ ((Int × Int × Int) × σ)}
theorem gR_in (hne : ∀ b s e, step b s = .inl e → e ≠ 0) : ∀ (k : Nat) (s : σ), (gR step k s).1 = 0 → (gR step k s).2.1.length = k ∧ (∀ z ∈ (gR step k s).2.1, -2047 ≤ z ∧ z ≤ 2047) ∧ ∃ s', (gR step k s).2.2.2 = some s' := by
  intro k
  induction k using Nat.strongRecOn with
  | _ k ih =>
    intro s h
    cases k with
    | zero => rw [gR]; exact ⟨rfl, by simp, s, rfl⟩
    | succ k =>
      rw [gR] at h ⊢
      cases hst : step false s with
      | inl e => rw [hst] at h; exact absurd h (hne _ _ _ hst)
      | inr q =>
        obtain ⟨t, s2⟩ := q
        rw [hst] at h
        simp only [] at h ⊢
        by_cases h1 : okT t = true
        · rw [if_pos h1] at h ⊢
          by_cases h2 : t.1 = 0
          · rw [if_pos h2]
            exact ⟨by simp, fun z hz => by rw [(List.mem_replicate.1 hz).2]; omega, s2, rfl⟩
          · rw [if_neg h2] at h ⊢
            by_cases h3 : k + 1 < farT t
            · rw [if_pos h3] at h; simp at h
            · rw [if_neg h3] at h ⊢
              have hp : 0 < farT t := by unfold farT; omega
              by_cases h4 : (gR step (k + 1 - farT t) s2).1 = 0
              · obtain ⟨g1, g2, s', g3⟩ := ih (k + 1 - farT t) (by omega) s2 h4
                rw [if_pos h4]
                refine ⟨by simp only [List.length_append, List.length_replicate, List.length_cons, g1]; omega, fun z hz => ?_, s', g3⟩
                rcases List.mem_append.1 hz with hz | hz
                · rw [(List.mem_replicate.1 hz).2]; omega
                · rcases List.mem_cons.1 hz with rfl | hz
                  · exact okQ_num (okT_okQ h1)
                  · exact g2 z hz
              · rw [if_neg h4] at h; exact absurd h h4
        · rw [if_neg h1] at h; simp at h
theorem gB_in (hne : ∀ b s e, step b s = .inl e → e ≠ 0) {before : Int} {s : σ} (h : (gB step before s).1 = 0) : (gB step before s).2.1.length = 64 ∧ (∀ z ∈ (gB step before s).2.1, -2047 ≤ z ∧ z ≤ 2047) ∧ (∃ s', (gB step before s).2.2.2 = some s') ∧ toksZ before (gB step before s).2.1 = (gB step before s).2.2.1 := by
  cases hst : step true s with
  | inl e => rw [gB_none hst] at h; exact absurd h (hne _ _ _ hst)
  | inr q =>
    obtain ⟨t, s2⟩ := q
    by_cases hf : firstT before t
    · rw [gB_go hst hf] at h ⊢
      by_cases h4 : (gR step 63 s2).1 = 0
      · obtain ⟨g1, g2, s', g3⟩ := gR_in hne 63 s2 h4
        unfold joinG at h ⊢
        rw [if_pos h4] at h ⊢
        unfold finG at h ⊢
        rw [if_pos rfl] at h ⊢
        by_cases h5 : toksZ before ([before + numT t] ++ (gR step 63 s2).2.1) = [t] ++ (gR step 63 s2).2.2.1
        · rw [if_pos h5]
          refine ⟨by simp [g1], fun z hz => ?_, ⟨s', g3⟩, h5⟩
          rcases List.mem_append.1 hz with hz | hz
          · rw [List.mem_singleton.1 hz]; exact hf.2.2
          · exact g2 z hz
        · rw [if_neg h5] at h; simp at h
      · unfold joinG at h
        rw [if_neg h4] at h
        unfold finG at h
        rw [if_neg h4] at h
        exact absurd h h4
    · rw [gB_bad hst hf] at h; simp at h
theorem head_in {zs : List Int} (h1 : zs.length = 64) (h2 : ∀ z ∈ zs, -2047 ≤ z ∧ z ≤ 2047) : -2047 ≤ (fromL zs).headD 0 ∧ (fromL zs).headD 0 ≤ 2047 := by
  have hl := fromL_length zs
  match hf : fromL zs, hl with
  | z :: l, _ => exact h2 z (fromL_mem h1 (by rw [hf]; exact List.mem_cons_self))
theorem inB_from {zs : List Int} (h1 : zs.length = 64) (h2 : ∀ z ∈ zs, -2047 ≤ z ∧ z ≤ 2047) : inB (-2047) 2047 (fromL zs) = true := inB_mem.2 fun z hz => h2 z (fromL_mem h1 hz)
end
/-- Blocks read so far, and what is still to read. -/
def joinS (acc : List (List Int)) (q : Int × List (List Int) × List Bool) : Int × List (List Int) × List Bool := if q.1 = 0 then (0, acc ++ q.2.1, q.2.2) else (q.1, [], [])
theorem joinS_nil_eq {fw rw_ : List (Int × Nat × Nat)} : ∀ (n : Nat) (before : Int) (b : List Bool), joinS [] (decS fw rw_ n before b) = decS fw rw_ n before b
  | 0, before, b => rfl
  | n + 1, before, b => by
    rw [decS]
    by_cases h : (gB (stepS fw rw_) before b).1 = 0
    · rw [if_pos h]
      simp only []
      by_cases h2 : (decS fw rw_ n ((fromL (gB (stepS fw rw_) before b).2.1).headD 0) ((gB (stepS fw rw_) before b).2.2.2.getD [])).1 = 0
      · rw [if_pos h2]; rfl
      · rw [if_neg h2]; unfold joinS; rw [if_neg h2]
    · rw [if_neg h]; unfold joinS; rw [if_neg h]
theorem joinS_joinS (a b : List (List Int)) (q : Int × List (List Int) × List Bool) : joinS a (joinS b q) = joinS (a ++ b) q := by
  unfold joinS
  by_cases h : q.1 = 0
  · simp [h]
  · simp [h]
theorem decS_err {fw rw_ : List (Int × Nat × Nat)} {before : Int} {b : List Bool} (h : (gB (stepS fw rw_) before b).1 ≠ 0) (n : Nat) : decS fw rw_ (n + 1) before b = ((gB (stepS fw rw_) before b).1, [], []) := by
  rw [decS, if_neg h]
theorem decS_ok {fw rw_ : List (Int × Nat × Nat)} {before : Int} {b s' : List Bool} (h : (gB (stepS fw rw_) before b).1 = 0) (hs : (gB (stepS fw rw_) before b).2.2.2 = some s') (n : Nat) : decS fw rw_ (n + 1) before b = joinS [outBk (gB (stepS fw rw_) before b)] (decS fw rw_ n ((outBk (gB (stepS fw rw_) before b)).headD 0) s') := by
  rw [decS, if_pos h, hs]
  unfold outBk joinS
  rw [if_pos h]
  rfl
/-- Where a reading of n blocks stands. -/
def DS (fw rw_ : List (Int × Nat × Nat)) (n : Nat) (s0 : List Bool) (k : Nat) (acc : List (List Int)) (before : Int) (s : List Bool) : Prop :=
  acc.length = k ∧ (-2047 ≤ before ∧ before ≤ 2047) ∧ (∀ r ∈ acc, r.length = 64) ∧ decS fw rw_ n 0 s0 = joinS acc (decS fw rw_ (n - k) before s)
theorem DS.start (fw rw_ : List (Int × Nat × Nat)) (n : Nat) (s0 : List Bool) : DS fw rw_ n s0 0 [] 0 s0 := ⟨rfl, by omega, by simp, by rw [joinS_nil_eq]; rfl⟩
section
variable {fw rw_ : List (Int × Nat × Nat)} {n k : Nat} {s0 s s' : List Bool} {acc : List (List Int)} {before : Int}
theorem DS.err (h : DS fw rw_ n s0 k acc before s) (hk : k < n) (he : (gB (stepS fw rw_) before s).1 ≠ 0) : decS fw rw_ n 0 s0 = ((gB (stepS fw rw_) before s).1, [], []) := by
  rw [h.2.2.2, show n - k = (n - (k + 1)) + 1 by omega, decS_err he]
  unfold joinS; rw [if_neg he]
theorem DS.next (h : DS fw rw_ n s0 k acc before s) (hk : k < n) (he : (gB (stepS fw rw_) before s).1 = 0) (hs : (gB (stepS fw rw_) before s).2.2.2 = some s') :
    DS fw rw_ n s0 (k + 1) (acc ++ [outBk (gB (stepS fw rw_) before s)]) ((outBk (gB (stepS fw rw_) before s)).headD 0) s' := by
  obtain ⟨g1, g2, _, _⟩ := gB_in (fun _ _ _ h => stepS_ne h) he
  have e : outBk (gB (stepS fw rw_) before s) = fromL (gB (stepS fw rw_) before s).2.1 := if_pos he
  refine ⟨by simp [h.1], by rw [e]; exact head_in g1 g2, fun r hr => ?_, ?_⟩
  · rcases List.mem_append.1 hr with hr | hr
    · exact h.2.2.1 r hr
    · rw [List.mem_singleton.1 hr, e]; exact fromL_length _
  · rw [h.2.2.2, show n - k = (n - (k + 1)) + 1 by omega, decS_ok he hs, joinS_joinS]
theorem DS.done (h : DS fw rw_ n s0 n acc before s) : decS fw rw_ n 0 s0 = (0, acc, s) := by
  rw [h.2.2.2, Nat.sub_self, decS]; unfold joinS; simp
end
theorem outBk_length {σ : Type} {step : Bool → σ → Int ⊕ ((Int × Int × Int) × σ)} (before : Int) (s : σ) : (outBk (gB step before s)).length = 64 := by
  unfold outBk; split
  · exact fromL_length _
  · exact zero64_length
/-- What Decode answers. -/
def segD (cs syms cs2 syms2 bs : List Int) (n : Nat) : Int × List (List Int) × List Bool := decS (outWords cs syms) (outWords cs2 syms2) n 0 (unpack (plainOut bs))
def eDec (cs syms cs2 syms2 bs : List Int) (n : Int) : Int :=
  if eTs cs syms cs2 syms2 ≠ 0 then eTs cs syms cs2 syms2 else if n < 0 ∨ 400 < n then 1 else if plainErr bs ≠ 0 then plainErr bs
  else if (segD cs syms cs2 syms2 bs n.toNat).1 ≠ 0 then (segD cs syms cs2 syms2 bs n.toNat).1 else if fillB (segD cs syms cs2 syms2 bs n.toNat).2.2 = true then 0 else 4
def oDec (cs syms cs2 syms2 bs : List Int) (n : Int) : List (List Int) := if eDec cs syms cs2 syms2 bs n = 0 then (segD cs syms cs2 syms2 bs n.toNat).2.1 else []
theorem oDec_err {cs syms cs2 syms2 bs : List Int} {n : Int} (h : eDec cs syms cs2 syms2 bs n ≠ 0) : oDec cs syms cs2 syms2 bs n = [] := if_neg h
end Go.Proofs.YtddkhkpdbjjboaaGreat
