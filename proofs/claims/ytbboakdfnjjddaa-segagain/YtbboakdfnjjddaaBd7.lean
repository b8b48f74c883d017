/- Texts shared by the claims of this seat, in one. -/
import Derived.Test.YtbboakdfnjjddaaBd3
import Derived.Test.YtbboakdfnjjddaaBd6
import Derived.Laws.MakeOwn
import Derived.Deep.DeepCutAuto
import Derived.Test.YtbboakdfnjjddaaBd4
import Derived.Test.YtbboakdfnjjddaaBd5
import Derived.StillTailTactics
import Derived.Test.YtbboakdfnjjddaaBd1
import Derived.RangeFuncNested
import Derived.RangeFuncBound
import Derived.RangeFuncCalls
import Derived.RangeFuncLeaves
import Derived.RangeFuncBox
import Derived.Shelf.Abstract
import Derived.Shelf.RegionOpen
import Derived.WalkKit
import Derived.OwnWalkIn
import Derived.TacticsInMore
import Derived.LoopNIn
import Derived.LoopIn
import Derived.Test.YtbboakdfnjjddaaRows
/- seg.eachToken: its contract, whatever function it hands the tokens to. -/
namespace Go.Proofs.Ytbboakdfnjjddaa
open Go.RowKit
set_option linter.unusedVariables false
set_option linter.unusedSimpArgs false
set_option maxRecDepth 100000

/-- A function that takes tokens: what it keeps, and which blocks it writes. -/
structure Taker (f : FuncId) (caps : Array Value) (G : Nat) (I : World → (Nat → Prop) → List (Bool × Int × Int × Int) → Prop) : Prop where
  enters : Enters Try.prog f
  foot : ∀ {W F acc}, I W F acc → ∀ q, F q → q < W.heap.size ∧ G ≤ q
  keep : ∀ {W W' F acc}, I W F acc → Below W.heap.size W W' → I W' F acc
  take : ∀ {W F acc} (first : Bool) (t : Int × Int × Int), I W F acc → acc.length < 25600 → goodT t → Calls Try.prog f (#[tokV t, .bool first] ++ caps) W fun e W' => e = .returned (.tuple #[]) ∧ ∃ F', I W' F' (acc ++ [(first, t)]) ∧ Only F W W' ∧ ∀ q, F' q → F q ∨ W.heap.size ≤ q
set_option maxRecDepth 100000 in
set_option maxHeartbeats 8000000 in
theorem eachToken_any (f : FuncId) (caps : Array Value) (G : Nat) (I : World → (Nat → Prop) → List (Bool × Int × Int × Int) → Prop) (hT : Taker f caps G I) (F0 : Nat → Prop) (L : List (List Int)) (A : Option Addr) (c : Nat) (w : World)
    (hl : ∀ r ∈ L, r.length = 64) (hm : L.length ≤ maxLen) (hs0 : L.length ≤ 400 → Seen w G A (rowsC L)) (hG : G ≤ w.heap.size) (hI : I w F0 []) :
    Calls Try.prog 24 #[.slice A L.length c, .func (.func f) #[] caps] w fun e w' => e = .returned (.int .i64 (eL L)) ∧ ∃ F acc, I w' F acc ∧ Only F0 w w' ∧ (∀ q, F q → F0 q ∨ w.heap.size ≤ q) ∧ (eL L = 0 → acc = toksB 0 L) := by
  unfold maxLen at hm
  obtain ⟨E, hE⟩ : ∃ E, E = eL L := ⟨_, rfl⟩
  rw [← hE]
  by_cases hbig : 400 < L.length
  · have hbz : (400 : Int) < (L.length : Int) := by omega
    rw [eL_large hbig] at hE
    subst hE
    clear hs0
    go_enter Try.func24, Try.ntmps24
    go_wp2
    go_ret
    exact ⟨rfl, F0, [], hI, Only.refl _ _, fun q h => .inl h, fun h => by cases h⟩
  · have hbz : ¬ (400 : Int) < (L.length : Int) := by omega
    have hs := hs0 (by omega)
    clear hs0
    have HE := veil hE
    have Hbig := veil hbig
    have HTk := veil hT
    have HI0 := veil hI
    have hF0 := hT.foot hI
    have HF0 := veil hF0
    have HTo := veil (fun b cs W h => tokens_any b cs W h)
    unfold blkV at HTo
    clear hE hbig hI hF0 hT
    go_enter Try.func24, Try.ntmps24
    go_wp2_with fail
    go_loopg [5, 17] L.length (fun gk v5 iv wr => ∃ (k : Nat) (before : Int) (F : Nat → Prop), gk = L.length - k ∧ k ≤ L.length ∧ iv = .int .i64 (k : Int) ∧ v5 = .int .i64 before ∧ Hid (before = ahead L k) ∧ Hid (∀ r ∈ L.take k, inB (-2047) 2047 r = true) ∧ Hid (I wr F (toksB 0 (L.take k))) ∧ Hid (Only F0 w wr) ∧ Hid (∀ q, F q → F0 q ∨ w.heap.size ≤ q))
    case atStart => exact ⟨0, 0, F0, rfl, Nat.zero_le _, rfl, rfl, veil rfl, veil (by simp), HI0, veil (Only.refl _ _), veil (fun q h => .inl h)⟩
    case round =>
      clear HI0
      obtain ⟨k, before, F, rfl, hk, rfl, rfl, HA, HIn, HI, HOn, HFs⟩ := hrel
      obtain ⟨W1, hW1⟩ : ∃ W1, W1 = wr := ⟨_, rfl⟩
      subst hW1
      have hzr := HOn.out.size
      by_cases hlt : k < L.length
      · have hltz : (k : Int) < (L.length : Int) := by omega
        have hbe := HOn.out.below hG (fun q hq => (HF0.out q hq).2)
        obtain ⟨g, o, r, rfl, hg, hr, hrl, hrange⟩ := hs.row hl (by omega) hlt
        have hrg := range_below hrange hbe hg
        have hbin := ahead_in (k := k) hl HIn.out hk
        rw [← HA.out] at hbin
        have Hl : Hid ((ints .i64 r).length = 64) := by show _ = _; rw [ints_length, hrl]
        have hone := ints_one (k := .i64) (l := r)
        have hr2 := range_new W1 (ints .i64 r) 47
        have hB2 := Blk.new W1 (ints .i64 r) 47
        have hb2 := below1 W1 (.cells (ints .i64 r).toArray 47)
        have HT2 := veil (HTo.out before r (W1.alloc (.cells (ints .i64 r).toArray 47)) hrl)
        have hI2 := HTk.out.keep HI.out hb2
        have hOn2 : Only F0 w (W1.alloc (.cells (ints .i64 r).toArray 47)) := HOn.out.trans (Only.of_below hb2 (Nat.le_refl _) : Only (fun _ => False) _ _) (fun q h => h.elim)
        have hz2 : (W1.alloc (.cells (ints .i64 r).toArray 47)).heap.size = W1.heap.size + 1 := by simp
        have hF2 := HTk.out.foot HI.out
        have hhd : (ints .i64 r)[0]? = some (.int .i64 (r.headD 0)) := by
          match r, hrl with
          | z :: r, _ => rfl
        have Hr := veil hr
        have Hbin := veil hbin
        have HI2 := veil hI2
        have HOn2 := veil hOn2
        have HF2 := veil hF2
        have Hrl := veil hrl
        obtain ⟨ys, hys⟩ : ∃ ys, ys = ints .i64 r := ⟨_, rfl⟩
        rw [← hys] at hrg Hl hone hr2 hB2 hb2 HT2 HI2 HOn2 hz2 hhd
        have Hys := veil hys
        have hc0 := hB2.cell hhd
        have Hhd := veil hhd
        clear hrange hr hrl hbin hI2 hOn2 hF2 hys hhd hc0 hb2 HI hbe
        go_wp2_with (first
          | (refine wpList_load_mid rfl 47 (.tmp 19) rfl g (o + k * 64) rfl ys _ hrg Try.underlying47 rfl (info_blkn Hl.out) ?_)
          | (refine wpList_store_new W1 rfl 47 (.tmp 7) (.tmp 20) rfl zeroB.toArray ys rfl rfl (info_blkn Hl.out) (by rw [Hl.out]; rfl) hone ?_)
          | (refine wpList_load_mid rfl 47 (.tmp 7) rfl W1.heap.size 0 rfl ys _ hr2 Try.underlying47 rfl (info_blkn Hl.out) ?_)
          | fail)
        refine HT2.out.mono ?_
        rintro e w3 ⟨v, rfl, HO3, hb3⟩
        have hz3 := hb3.size
        have hI3 := HTk.out.keep HI2.out hb3
        have hOn3 : Only F0 w w3 := HOn2.out.trans (Only.of_below hb3 (Nat.le_refl _) : Only (fun _ => False) _ _) (fun q h => h.elim)
        have hB3 := hB2.below hb3 (by omega)
        rw [hz2] at HO3 hz3
        clear hrg hr2 HT2 hb3 hB2 HI2 HOn2
        by_cases hin : inB (-2047) 2047 r = true
        · have hT0 := eT_ok Hbin.out.1 Hbin.out.2 hin
          rw [oT_ok hT0] at HO3
          rw [hT0]
          obtain ⟨T, hT⟩ : ∃ T, T = toksZ before (toL r) := ⟨_, rfl⟩
          have hgood : ∀ t ∈ T, goodT t := by rw [hT]; exact toks_good Hbin.out (toL_in Hrl.out hin)
          have hTl : T.length ≤ 64 := by rw [hT]; exact toks_len _ (toL_length _)
          have hacc : toksB 0 (L.take (k + 1)) = toksB 0 (L.take k) ++ flagT T := by rw [toksB_next Hr.out, hT, HA.out]
          rw [← hT] at HO3
          have hown : ∀ q, v.ownBlock = some q → W1.heap.size + 1 ≤ q ∧ q < w3.heap.size := fun q hq => (HO3.head).lt q hq
          obtain ⟨A5, c5, hv5, hs5, hc5, hm5⟩ := tok_form HO3
          have Hgood := veil hgood
          have Hacc := veil hacc
          have Hown := veil hown
          have Hin : Hid (∀ x ∈ L.take (k + 1), inB (-2047) 2047 x = true) := by
            intro x hx
            rw [take_snoc Hr.out] at hx
            rcases List.mem_append.1 hx with hx | hx
            · exact HIn.out x hx
            · rw [List.mem_singleton.1 hx]; exact hin
          have HO3 := veil HO3
          have Hv5 := veil hv5
          have hlen0 : (toksB 0 (L.take k)).length ≤ 64 * k := by have := toksB_len (L.take k) 0; rw [List.length_take, Nat.min_eq_left hk] at this; exact this
          have hL400 : L.length ≤ 400 := by have := Hbig.out; omega
          have Hlen0 := veil hlen0
          have HI3 := veil hI3; have HOn3 := veil hOn3; have HB3 := veil hB3
          subst v
          clear hT0 hT hgood hacc hown hin hlen0 hI3 hOn3 hB3 hs5 HIn
          go_wp2_with fail
          go_loopg [32] T.length (fun gk iv wi => ∃ (j : Nat) (F' : Nat → Prop), gk = T.length - j ∧ j ≤ T.length ∧ iv = .int .i64 (j : Int) ∧ Hid (I wi F' (toksB 0 (L.take k) ++ flagT (T.take j))) ∧ Hid (Only F0 w wi) ∧ Hid (∀ q, F' q → F q ∨ w3.heap.size ≤ q) ∧ Hid (Owns (W1.heap.size + 1) [tokRow (.slice A5 T.length c5) T] wi) ∧ Hid (Blk wi W1.heap.size ys 47) ∧ w3.heap.size ≤ wi.heap.size)
          case atStart => exact ⟨0, F, rfl, Nat.zero_le _, rfl, by rw [List.take_zero]; simpa [flagT] using HI3, HOn3, veil (fun q h => .inl h), HO3, HB3, Nat.le_refl _⟩
          case round =>
            clear HI3 HOn3 HB3 HO3
            obtain ⟨j, F', rfl, hj, rfl, HI, HOn, HFs', HO, HB, hzi⟩ := hrel
            by_cases hltj : j < T.length
            · have hltjz : (j : Int) < (T.length : Int) := by omega
              obtain ⟨A6, c6, hv6, hs6, hc6, hm6⟩ := tok_form HO.out
              obtain ⟨rfl, rfl⟩ : A5 = A6 ∧ c5 = c6 := by simpa using hv6
              obtain ⟨g6, o6, t0, t1, t2, rfl, hg6, htj, d0, d1, d2⟩ := hs6.tok hltj
              obtain ⟨bf, hbf⟩ : ∃ bf : Bool, ((j : Int) == 0) = bf := ⟨_, rfl⟩
              have hbf2 : bf = decide (j = 0) := by rw [← hbf, Bool.eq_iff_iff]; simp
              have hg := Hgood.out _ (List.mem_of_getElem? htj)
              have hb7 := below1 wr (.cells (tokC (t0, t1, t2)).toArray 56)
              have hI7 := HTk.out.keep HI.out hb7
              have hfl : (toksB 0 (L.take k) ++ flagT (T.take j)).length < 25600 := by
                rw [List.length_append, flagT_length, List.length_take]; have := Hlen0.out; omega
              have HTt := veil (HTk.out.take bf (t0, t1, t2) hI7 hfl hg)
              have hsn : (toksB 0 (L.take k) ++ flagT (T.take j)) ++ [(bf, t0, t1, t2)] = toksB 0 (L.take k) ++ flagT (T.take (j + 1)) := by
                rw [List.append_assoc]
                congr 1
                have h9 := flagT_at htj
                rw [← flagT_take, ← flagT_take, take_snoc h9, hbf2]
              rw [hsn] at HTt
              have hz7 : (wr.alloc (.cells (tokC (t0, t1, t2)).toArray 56)).heap.size = wr.heap.size + 1 := by simp
              have hF7 := HTk.out.foot HI.out
              have hO7 := HO.out.alloc (.cells (tokC (t0, t1, t2)).toArray 56)
              have hB7 := HB.out.below hb7 (by have := HB.out.lt; omega)
              have hOn7 : Only F0 w (wr.alloc (.cells (tokC (t0, t1, t2)).toArray 56)) := HOn.out.trans (Only.of_below hb7 (Nat.le_refl _) : Only (fun _ => False) _ _) (fun q h => h.elim)
              have Hz7 := veil hz7; have HF7 := veil hF7; have HO7 := veil hO7; have HB7 := veil hB7; have HOn7 := veil hOn7
              have hen := HTk.out.enters
              have Hen := veil hen
              clear hbf2 hg hb7 hI7 hfl hsn hz7 hF7 hO7 hB7 hOn7 hen htj hs6 hv6
              go_wp2_with fail
              rw [Hen.out, Oper.upon_enter]
              refine HTt.out.mono ?_
              rintro e w8 ⟨rfl, F8, hI8, hOn8, hF8⟩
              have hz8 := hOn8.size
              have hz7 := Hz7.out
              have hnF : ∀ q, F' q → q < W1.heap.size ∨ w3.heap.size ≤ q := fun q hq => by
                rcases HFs'.out q hq with h | h
                · exact .inl (HF2.out q h).1
                · exact .inr h
              have hOn9 : Only F0 w w8 := HOn7.out.trans hOn8 (fun q hq => by
                rcases HFs'.out q hq with h | h
                · exact HFs.out q h
                · right; omega)
              have hF9 : ∀ q, F8 q → F q ∨ w3.heap.size ≤ q := fun q hq => by
                rcases hF8 q hq with h | h
                · exact HFs'.out q h
                · right; omega
              have hO9 := HO7.out.only hOn8 (fun r hr q hq hFq => by
                rw [List.mem_singleton.1 hr] at hq
                have h1 := Hown.out q hq
                have h2 := hnF q hFq
                omega)
              have hB9 := hOn8.blk HB7.out (fun hFq => by have := hnF _ hFq; omega)
              have HI9 := veil hI8; have HOn9 := veil hOn9; have HF9 := veil hF9; have HO9 := veil hO9; have HB9 := veil hB9
              have hz9 : w3.heap.size ≤ w8.heap.size := by omega
              clear hI8 hOn8 hF8 hnF hOn9 hF9 hO9 hB9 hz7
              go_wp2_with fail
              go_roundg (T.length - (j + 1))
              case rel => exact ⟨j + 1, F8, rfl, by omega, by go_num, HI9, HOn9, HF9, HO9, HB9, hz9⟩
              case measure => omega
            · obtain rfl : j = T.length := by omega
              have hI9 := HI.out
              rw [List.take_length, ← Hacc.out] at hI9
              have HI9 := veil hI9
              have hc0 := HB.out.cell Hhd.out
              have hF9 : ∀ q, F' q → F0 q ∨ w.heap.size ≤ q := fun q hq => by
                rcases HFs'.out q hq with h | h
                · exact HFs.out q h
                · right; omega
              have HF9 := veil hF9
              have HA9 : Hid (r.headD 0 = ahead L (k + 1)) := (ahead_next Hr.out).symm
              clear hI9 hF9
              go_wp2_with fail
              go_roundg (L.length - (k + 1))
              case rel => exact ⟨k + 1, r.headD 0, F', rfl, by omega, by go_num, by rw [List.headD_eq_head?_getD], HA9, Hin, HI9, HOn, HF9⟩
              case measure => omega
        · have h5 := eL_bad Hbig.out Hr.out (by simpa using hin)
          rw [← HE.out] at h5
          subst h5
          rw [eT_bad (fun h => hin h.2.2)]
          have HI3 := veil hI3; have HOn3 := veil hOn3
          clear hI3 hOn3 HO3 hB3 hin
          go_wp2_with fail
          go_ret
          exact ⟨rfl, F, _, HI3.out, HOn3.out, HFs.out, fun h => by cases h⟩
      · obtain rfl : k = L.length := by omega
        have h5 := eL_ok Hbig.out (fun r hr => HIn.out r (by rw [List.take_of_length_le (Nat.le_refl _)]; exact hr))
        rw [← HE.out] at h5
        subst h5
        go_wp2_with fail
        go_ret
        exact ⟨rfl, F, _, HI.out, HOn.out, HFs.out, by rw [List.take_length]⟩
end Go.Proofs.Ytbboakdfnjjddaa

/- How often each symbol comes, in numbers. No program is named here. -/
namespace Go.Proofs.Ytbboakdfnjjddaa
set_option linter.unusedVariables false
set_option linter.unusedSimpArgs false
set_option maxRecDepth 100000

def bump (xs : List Int) (i : Nat) : List Int := xs.set i (xs.getD i 0 + 1)
/-- How often each symbol is a first one (true), or another one. -/
def tally (b : Bool) (l : List (Bool × Int × Int × Int)) : List Int := l.foldl (fun a x => if x.1 = b then bump a x.2.1.toNat else a) (List.replicate 256 0)
theorem tally_nil (b : Bool) : tally b [] = List.replicate 256 0 := rfl
theorem tally_snoc (b : Bool) (l : List (Bool × Int × Int × Int)) (x : Bool × Int × Int × Int) : tally b (l ++ [x]) = if x.1 = b then bump (tally b l) x.2.1.toNat else tally b l := by
  unfold tally; rw [List.foldl_append]; rfl
theorem bump_length (xs : List Int) (i : Nat) : (bump xs i).length = xs.length := by simp [bump]
theorem snoc_list {α : Type} {P : List α → Prop} (h0 : P []) (h1 : ∀ l x, P l → P (l ++ [x])) (l : List α) : P l := by
  have : ∀ n (l : List α), l.length = n → P l := by
    intro n
    induction n with
    | zero => intro l h; rw [List.length_eq_zero_iff.1 h]; exact h0
    | succ n ih =>
      intro l h
      have hne : l ≠ [] := by intro e; rw [e] at h; cases h
      rw [← List.dropLast_concat_getLast hne]
      exact h1 _ _ (ih _ (by simp [h]))
  exact this _ l rfl
theorem tally_length (b : Bool) (l : List (Bool × Int × Int × Int)) : (tally b l).length = 256 := by
  refine snoc_list (P := fun l => (tally b l).length = 256) (by simp [tally_nil]) (fun l x h => ?_) l
  rw [tally_snoc]
  split
  · rw [bump_length]; exact h
  · exact h
theorem tally_in (b : Bool) (l : List (Bool × Int × Int × Int)) : ∀ z ∈ tally b l, 0 ≤ z ∧ z ≤ l.length := by
  refine snoc_list (P := fun l => ∀ z ∈ tally b l, 0 ≤ z ∧ z ≤ (l.length : Int)) (fun z hz => ?_) (fun l x h z hz => ?_) l
  · rw [tally_nil] at hz; rw [(List.mem_replicate.1 hz).2]; simp
  · rw [tally_snoc] at hz
    simp only [List.length_append, List.length_singleton]
    split at hz
    · unfold bump at hz
      rcases List.mem_or_eq_of_mem_set hz with hz | rfl
      · have := h z hz; omega
      · by_cases hi : x.2.1.toNat < (tally b l).length
        · obtain ⟨y, hy⟩ := some_at hi
          have := h y (List.mem_of_getElem? hy)
          rw [List.getD_eq_getElem?_getD, hy]; simp only [Option.getD_some]; omega
        · rw [List.getD_eq_getElem?_getD, List.getElem?_eq_none (by omega)]; simp only [Option.getD_none]; omega
    · have := h z hz; omega
end Go.Proofs.Ytbboakdfnjjddaa

/- seg.Counts: its contract. -/
namespace Go.Proofs.Ytbboakdfnjjddaa
open Go.RowKit
set_option linter.unusedVariables false
set_option linter.unusedSimpArgs false
set_option maxRecDepth 100000

theorem info_int' : (Try.prog.info? 3).map (fun i => (i.zero, i.size, i.bytes)) = some (some (.int .i64 0), 1, 8) := by kernel_rfl
def zero256 : List Value := ints .i64 (List.replicate 256 0)
theorem made256 : madeCells (Value.int .i64 0).cells 256 = zero256.toArray := by kernel_rfl
theorem run_make256 (u : World) : (Instr.makeSlice 23 (.int .i64 256) (.int .i64 256)).run Try.prog u = .ok (.slice (some ⟨u.heap.size, 0, none⟩) 256 256) (u.alloc (.cells zero256.toArray 3)) := by
  obtain ⟨i0, hi, hz0, hz1, hz2⟩ := info_parts info_int'
  have h := run_make (P := Try.prog) u 23 3 i0 (.int .i64 0) Try.underlying23 hi hz0 .i64 .i64 256 256 (by omega) (by omega) (by rw [hz2]; omega) (by omega)
  rw [hz1] at h
  rw [← made256]
  exact h
theorem ints_set (xs : List Int) (i : Nat) (x : Int) : (ints .i64 xs).set i (.int .i64 x) = ints .i64 (xs.set i x) := by simp [ints]
end Go.Proofs.Ytbboakdfnjjddaa

/- The reference's Counts: its contract. -/
namespace Go.Proofs.Ytbboakdfnjjddaa
open Go.RowKit
set_option linter.unusedVariables false
set_option linter.unusedSimpArgs false
set_option maxRecDepth 100000

theorem two0 (w : World) (xs : List Value) (t : TypeId) (b : Obj) : Blk ((w.alloc (.cells xs.toArray t)).alloc b).drew w.heap.size xs t :=
  (Blk.new w xs t).below (below1 _ b).drew (by simp)
theorem two1 (w : World) (xs : List Value) (t : TypeId) (a : Obj) : Blk ((w.alloc a).alloc (.cells xs.toArray t)).drew (w.heap.size + 1) xs t := by
  have h := Blk.new (w.alloc a) xs t
  rw [World.size_alloc] at h
  exact h
set_option maxRecDepth 100000 in
set_option maxHeartbeats 8000000 in
theorem refCounts_any (L : List (List Int)) (A : Option Addr) (c G : Nat) (w : World) (hl : ∀ r ∈ L, r.length = 64) (h400 : L.length ≤ 400) (hin : ∀ r ∈ L, inB (-2047) 2047 r = true) (hs : Seen w G A (rowsC L)) (hG : G ≤ w.heap.size) :
    Calls Try.prog 11 #[.slice A L.length c] w fun e w' => ∃ v1 v2, e = .returned (.tuple #[v1, v2]) ∧ Owns w.heap.size [intRow 3 .i64 v1 (tally true (toksB 0 L)), intRow 3 .i64 v2 (tally false (toksB 0 L))] w' ∧ Below w.heap.size w w' := by
  have hmk := run_make256
  have HTo := veil (fun b cs W h => refTokens_any b cs W h)
  unfold blkV at HTo
  have Hs := veil hs
  clear hs
  go_enter Try.func11, Try.ntmps11
  go_upto_region 1 with fail
  go_cut [4, 5] (fun v4 v5 wx => ∃ p1 p2 : Nat, v4 = .slice (some ⟨p1, 0, none⟩) 256 256 ∧ v5 = .slice (some ⟨p2, 0, none⟩) 256 256 ∧ Blk wx p1 zero256 3 ∧ Blk wx p2 zero256 3 ∧ p1 ≠ p2 ∧ w.heap.size ≤ p1 ∧ w.heap.size ≤ p2 ∧ Below w.heap.size w wx)
  case first =>
    go_region
    all_goals (go_wp2; go_meet)
    all_goals refine ⟨_, _, rfl, rfl, (by first | exact two0 _ _ _ _ | exact two1 _ _ _ _), (by first | exact two0 _ _ _ _ | exact two1 _ _ _ _), by omega, by omega, by omega, (below2 w _ _).drew⟩
  case rest =>
    obtain ⟨p1, p2, rfl, rfl, hp1, hp2, n1, l1, l2, hb⟩ := hcut
    have HP1 := veil hp1; have HP2 := veil hp2; have HbC := veil hb
    clear hmk hp1 hp2 hb
    go_wp2_with fail
    go_loopg [17] L.length (fun gk iv wr => ∃ (k : Nat), gk = L.length - k ∧ k ≤ L.length ∧ iv = .int .i64 (k : Int) ∧ Hid (Blk wr p1 (ints .i64 (tally true (toksB 0 (L.take k)))) 3) ∧ Hid (Blk wr p2 (ints .i64 (tally false (toksB 0 (L.take k)))) 3) ∧ Hid (Below w.heap.size w wr))
    case atStart => exact ⟨0, rfl, Nat.zero_le _, rfl, HP1, HP2, HbC⟩
    case round =>
      clear HP1 HP2 HbC
      obtain ⟨k, rfl, hk, rfl, HQ1, HQ2, Hbe⟩ := hrel
      obtain ⟨W1, hW1⟩ : ∃ W1, W1 = wr := ⟨_, rfl⟩
      subst hW1
      have hzr := Hbe.out.size
      by_cases hlt : k < L.length
      · have hltz : (k : Int) < (L.length : Int) := by omega
        obtain ⟨g, o, r, rfl, hg, hr, hrl, hrange⟩ := Hs.out.row hl (by omega) hlt
        have hrg := range_below hrange Hbe.out (by omega)
        have hbin := ahead_in (k := k) hl (fun r hr => hin r (List.mem_of_mem_take hr)) hk
        have Hl : Hid ((ints .i64 r).length = 64) := by show _ = _; rw [ints_length, hrl]
        have hone := ints_one (k := .i64) (l := r)
        have hr2 := range_new W1 (ints .i64 r) 47
        have hB2 := Blk.new W1 (ints .i64 r) 47
        have hb2 := below1 W1 (.cells (ints .i64 r).toArray 47)
        have HT2 := veil (HTo.out (ahead L k) r (W1.alloc (.cells (ints .i64 r).toArray 47)) hrl)
        have hz2 : (W1.alloc (.cells (ints .i64 r).toArray 47)).heap.size = W1.heap.size + 1 := by simp
        have hS2 : Seen (W1.alloc (.cells (ints .i64 r).toArray 47)) G (some ⟨g, o, none⟩) (rowsC L) := (Hs.out.below Hbe.out hG).below hb2 (by omega)
        have Hr := veil hr
        have Hbin := veil hbin
        have Hrl := veil hrl
        have hinr := hin r (List.mem_of_getElem? hr)
        have Hinr := veil hinr
        obtain ⟨ys, hys⟩ : ∃ ys, ys = ints .i64 r := ⟨_, rfl⟩
        rw [← hys] at hrg Hl hone hr2 hB2 hb2 HT2 hz2 hS2
        have HS2 := veil hS2
        have Hhb2 := veil hb2
        clear hrange hr hrl hbin hys hinr hS2 hb2 hB2
        go_upto_if 23 with (first
          | (refine wpList_load_mid rfl 47 (.tmp 20) rfl g (o + k * 64) rfl ys _ hrg Try.underlying47 rfl (info_blkn Hl.out) ?_)
          | (refine wpList_store_new W1 rfl 47 (.tmp 7) (.tmp 21) rfl zeroB.toArray ys rfl rfl (info_blkn Hl.out) (by rw [Hl.out]; rfl) hone ?_)
          | fail)
        obtain ⟨W2, hW2⟩ : ∃ W2, W2 = W1.alloc (.cells ys.toArray 47) := ⟨_, rfl⟩
        rw [← hW2] at hr2 hz2 HT2 HS2 Hhb2 ⊢
        clear hrg hW2
        go_cut [8] (fun v8 wx => v8 = .int .i64 (ahead L k) ∧ wx = W2)
        case first =>
          by_cases hk0 : k = 0
          · subst hk0
            go_wp2_with fail
            go_meet
            case rel => exact ⟨rfl, rfl⟩
          · obtain ⟨j, rfl⟩ : ∃ j, k = j + 1 := ⟨k - 1, by omega⟩
            obtain ⟨g9, o9, r9, hA9, hg9, hr9, hrl9, hrange9⟩ := HS2.out.row hl (by omega) (k := j) (by omega)
            simp only [Option.some.injEq, Addr.mk.injEq, and_true] at hA9
            obtain ⟨rfl, rfl⟩ := hA9
            have hc9 := hrange9 0 (.int .i64 (ahead L (j + 1))) (by
              rw [ahead_next hr9]
              match r9, hrl9 with
              | z :: r9, _ => rfl)
            rw [Nat.add_zero] at hc9
            have hw9 : IntKind.i64.wrap (((j + 1 : Nat) : Int) - 1) = (j : Int) := by rw [IntKind.wrap_i64]; omega
            have hp9 : (0 : Int) < ((j + 1 : Nat) : Int) := by omega
            obtain ⟨AH, hAH⟩ : ∃ AH, AH = ahead L (j + 1) := ⟨_, rfl⟩
            rw [← hAH] at hc9
            have HAH := veil hAH
            clear hrange9 hr9 hAH
            go_wp2_with fail
            go_meet
            case rel => exact ⟨by rw [HAH.out], rfl⟩
        case rest =>
          obtain ⟨rfl, hwc⟩ := hcut
          have hwc' : wc = W2 := hwc
          subst wc
          go_wp2_with (first
            | (refine wpList_load_mid rfl 47 (.tmp 7) rfl W1.heap.size 0 rfl ys _ hr2 Try.underlying47 rfl (info_blkn Hl.out) ?_)
            | fail)
          refine HT2.out.mono ?_
          rintro e w3 ⟨v, rfl, HO3, hb3⟩
          have hz3 := hb3.size
          rw [hz2] at hz3 HO3
          have hlp1 := HQ1.out.lt
          have hlp2 := HQ2.out.lt
          have hT0 := eT_ok Hbin.out.1 Hbin.out.2 Hinr.out
          rw [oT_ok hT0] at HO3
          rw [hT0]
          obtain ⟨T, hT⟩ : ∃ T, T = toksZ (ahead L k) (toL r) := ⟨_, rfl⟩
          have hgood : ∀ t ∈ T, goodT t := by rw [hT]; exact toks_good Hbin.out (toL_in Hrl.out Hinr.out)
          have hTl : T.length ≤ 64 := by rw [hT]; exact toks_len _ (toL_length _)
          have hacc : toksB 0 (L.take (k + 1)) = toksB 0 (L.take k) ++ flagT T := by rw [toksB_next Hr.out, hT]
          have hlen0 : (toksB 0 (L.take k)).length ≤ 64 * k := by have := toksB_len (L.take k) 0; rw [List.length_take, Nat.min_eq_left hk] at this; exact this
          rw [← hT] at HO3
          obtain ⟨A5, c5, hv5, _, _, _⟩ := tok_form HO3
          have hQ13 := (HQ1.out.below Hhb2.out hlp1).below hb3 (by rw [hz2]; omega)
          have hQ23 := (HQ2.out.below Hhb2.out hlp2).below hb3 (by rw [hz2]; omega)
          have hbw3 := (Hbe.out.trans (Hhb2.out.mono Hbe.out.size)).trans (hb3.mono (by rw [hz2]; omega))
          have Hgood := veil hgood; have Hacc := veil hacc; have HO3 := veil HO3; have HQ13 := veil hQ13; have HQ23 := veil hQ23; have Hbw3 := veil hbw3; have Hlen0 := veil hlen0
          subst v
          clear hT0 hT hgood hacc hlen0 hQ13 hQ23 hbw3 hb3 hr2 HT2 HS2 Hhb2
          go_wp2_with fail
          go_loopg [38] T.length (fun gk iv wi => ∃ (j : Nat), gk = T.length - j ∧ j ≤ T.length ∧ iv = .int .i64 (j : Int) ∧ Hid (Blk wi p1 (ints .i64 (tally true (toksB 0 (L.take k) ++ flagT (T.take j)))) 3) ∧ Hid (Blk wi p2 (ints .i64 (tally false (toksB 0 (L.take k) ++ flagT (T.take j)))) 3) ∧ Hid (Owns (W1.heap.size + 1) [tokRow (.slice A5 T.length c5) T] wi) ∧ Hid (Below w.heap.size w wi) ∧ Hid (w3.heap.size ≤ wi.heap.size))
          case atStart => exact ⟨0, rfl, Nat.zero_le _, rfl, by rw [List.take_zero]; simpa [flagT] using HQ13, by rw [List.take_zero]; simpa [flagT] using HQ23, HO3, Hbw3, veil (Nat.le_refl _)⟩
          case round =>
            clear HQ13 HQ23 HO3 Hbw3
            obtain ⟨j, rfl, hj, rfl, Hp1, Hp2, HO, Hbw, Hzi⟩ := hrel
            by_cases hltj : j < T.length
            · have hltjz : (j : Int) < (T.length : Int) := by omega
              obtain ⟨A6, c6, hv6, hs6, hc6, hm6⟩ := tok_form HO.out
              obtain ⟨rfl, rfl⟩ : A5 = A6 ∧ c5 = c6 := by simpa using hv6
              obtain ⟨g6, o6, t0, t1, t2, rfl, hg6, htj, d0, d1, d2⟩ := hs6.tok hltj
              have hg := (Hgood.out _ (List.mem_of_getElem? htj)).2
              simp only at hg
              obtain ⟨S, hS⟩ : ∃ S : Nat, t0 = (S : Int) := ⟨t0.toNat, by omega⟩
              subst hS
              have hS256 : S < 256 := by omega
              have hzi := Hzi.out
              have hlenk := Hlen0.out
              have hb7 := below1 wr (.cells #[.int .i64 (S : Int), .int .i64 t1, .int .i64 t2] 56)
              have hfl : (toksB 0 (L.take k) ++ flagT (T.take j)).length < 25600 := by
                rw [List.length_append, flagT_length, List.length_take]; omega
              have hsn : (toksB 0 (L.take k) ++ flagT (T.take j)) ++ [(decide (j = 0), (S : Int), t1, t2)] = toksB 0 (L.take k) ++ flagT (T.take (j + 1)) := by
                rw [List.append_assoc]
                congr 1
                have h9 := flagT_at htj
                rw [← flagT_take, ← flagT_take, take_snoc h9]
              clear hs6 hv6 htj hg
              by_cases hj0 : j = 0
              · have hjb : ((j : Int) == 0) = true := by simp [hj0]
                obtain ⟨x, hx⟩ := some_at (xs := tally true (toksB 0 (L.take k) ++ flagT (T.take j))) (j := S) (by rw [tally_length]; exact hS256)
                have hxb := tally_in true (toksB 0 (L.take k) ++ flagT (T.take j)) x (List.mem_of_getElem? hx)
                have hB := Hp1.out.below hb7 (by have := Hp1.out.lt; omega)
                have k1 := hB.cell (i := S) (v := .int .i64 x) (ints_at hx)
                have f1 := hB.frozen S
                have hB2 := hB.set S (.int .i64 (x + 1))
                have hbump : (ints .i64 (tally true (toksB 0 (L.take k) ++ flagT (T.take j)))).set S (.int .i64 (x + 1)) = ints .i64 (tally true (toksB 0 (L.take k) ++ flagT (T.take (j + 1)))) := by
                  rw [← hsn, tally_snoc, if_pos (by simp [hj0]), ints_set]; unfold bump
                  rw [Int.toNat_natCast, List.getD_eq_getElem?_getD, hx]; rfl
                rw [hbump] at hB2
                have hsame : tally false (toksB 0 (L.take k) ++ flagT (T.take (j + 1))) = tally false (toksB 0 (L.take k) ++ flagT (T.take j)) := by rw [← hsn, tally_snoc, if_neg (by simp [hj0])]
                have hg2 := grown_setCell (wr.alloc (.cells #[.int .i64 (S : Int), .int .i64 t1, .int .i64 t2] 56)) p1 S (.int .i64 (x + 1))
                have hw : IntKind.i64.wrap (x + 1) = x + 1 := by rw [IntKind.wrap_i64]; omega
                have hq9 := (Hp2.out.below hb7 (by have := Hp2.out.lt; omega)).kept hg2 (by simp; omega)
                rw [← hsame] at hq9
                have hO9 := (HO.out.below hb7).kept hg2 (by omega)
                have hbw9 := ((Hbw.out.trans (hb7.mono Hbw.out.size)).grown hg2 (by have := Hbw.out.size; simp; omega) (fun j hj => by injection hj with hj; omega) : Below w.heap.size w _)
                have HB2 := veil hB2; have Hq9 := veil hq9; have HO9 := veil hO9; have Hbw9 := veil hbw9
                have hzi9 : w3.heap.size ≤ ((wr.alloc (.cells #[.int .i64 (S : Int), .int .i64 t1, .int .i64 t2] 56)).setCell ⟨p1, S, none⟩ (.int .i64 (x + 1))).heap.size := by have := hg2.size; simp at this; simp; omega
                have Hzi9 := veil hzi9
                clear hB hB2 hbump hsame hg2 hq9 hO9 hbw9 hzi9 hx hxb hb7 hlp1 hlp2 hsn hj0
                go_wp2_with fail
                go_roundg (T.length - (j + 1))
                case rel => exact ⟨j + 1, rfl, by omega, by go_num, HB2, Hq9, HO9, Hbw9, Hzi9⟩
                case measure => omega
              · have hjb : ((j : Int) == 0) = false := by simp [hj0]
                obtain ⟨x, hx⟩ := some_at (xs := tally false (toksB 0 (L.take k) ++ flagT (T.take j))) (j := S) (by rw [tally_length]; exact hS256)
                have hxb := tally_in false (toksB 0 (L.take k) ++ flagT (T.take j)) x (List.mem_of_getElem? hx)
                have hB := Hp2.out.below hb7 (by have := Hp2.out.lt; omega)
                have k1 := hB.cell (i := S) (v := .int .i64 x) (ints_at hx)
                have f1 := hB.frozen S
                have hB2 := hB.set S (.int .i64 (x + 1))
                have hbump : (ints .i64 (tally false (toksB 0 (L.take k) ++ flagT (T.take j)))).set S (.int .i64 (x + 1)) = ints .i64 (tally false (toksB 0 (L.take k) ++ flagT (T.take (j + 1)))) := by
                  rw [← hsn, tally_snoc, if_pos (by simp [hj0]), ints_set]; unfold bump
                  rw [Int.toNat_natCast, List.getD_eq_getElem?_getD, hx]; rfl
                rw [hbump] at hB2
                have hsame : tally true (toksB 0 (L.take k) ++ flagT (T.take (j + 1))) = tally true (toksB 0 (L.take k) ++ flagT (T.take j)) := by rw [← hsn, tally_snoc, if_neg (by simp [hj0])]
                have hg2 := grown_setCell (wr.alloc (.cells #[.int .i64 (S : Int), .int .i64 t1, .int .i64 t2] 56)) p2 S (.int .i64 (x + 1))
                have hw : IntKind.i64.wrap (x + 1) = x + 1 := by rw [IntKind.wrap_i64]; omega
                have hq9 := (Hp1.out.below hb7 (by have := Hp1.out.lt; omega)).kept hg2 (by simp; omega)
                rw [← hsame] at hq9
                have hO9 := (HO.out.below hb7).kept hg2 (by omega)
                have hbw9 := ((Hbw.out.trans (hb7.mono Hbw.out.size)).grown hg2 (by have := Hbw.out.size; simp; omega) (fun j hj => by injection hj with hj; omega) : Below w.heap.size w _)
                have HB2 := veil hB2; have Hq9 := veil hq9; have HO9 := veil hO9; have Hbw9 := veil hbw9
                have hzi9 : w3.heap.size ≤ ((wr.alloc (.cells #[.int .i64 (S : Int), .int .i64 t1, .int .i64 t2] 56)).setCell ⟨p2, S, none⟩ (.int .i64 (x + 1))).heap.size := by have := hg2.size; simp at this; simp; omega
                have Hzi9 := veil hzi9
                clear hB hB2 hbump hsame hg2 hq9 hO9 hbw9 hzi9 hx hxb hb7 hlp1 hlp2 hsn hj0
                go_wp2_with fail
                go_roundg (T.length - (j + 1))
                case rel => exact ⟨j + 1, rfl, by omega, by go_num, Hq9, HB2, HO9, Hbw9, Hzi9⟩
                case measure => omega
            · obtain rfl : j = T.length := by omega
              have h1 := Hp1.out
              have h2 := Hp2.out
              rw [List.take_length, ← Hacc.out] at h1 h2
              have H1 := veil h1; have H2 := veil h2
              clear h1 h2 hlp1 hlp2
              go_wp2_with fail
              go_roundg (L.length - (k + 1))
              case rel => exact ⟨k + 1, rfl, by omega, by go_num, H1, H2, Hbw⟩
              case measure => omega
      · obtain rfl : k = L.length := by omega
        have h1 := HQ1.out
        have h2 := HQ2.out
        rw [List.take_length] at h1 h2
        have hl1 := tally_length true (toksB 0 L)
        have hl2 := tally_length false (toksB 0 L)
        have own := fun (p : Nat) (X : List Int) (hx : X.length = 256) (hp : Blk W1 p (ints .i64 X) 3) (hw : w.heap.size ≤ p) =>
          (⟨by rw [ints_length, hx], .inr ⟨p, 256, (ints .i64 X).toArray, rfl, hw, hp, by omega, by unfold maxLen; omega, by simp [ints_length, hx], by rw [List.take_of_length_le (by simp [ints_length, hx])]⟩⟩ : W1.ownsRow w.heap.size 3 1 (.slice (some ⟨p, 0, none⟩) 256 256) 256 (ints .i64 X))
        have o1 := own p1 _ hl1 h1 l1
        have o2 := own p2 _ hl2 h2 l2
        have HOw : Hid (Owns w.heap.size [intRow 3 .i64 (.slice (some ⟨p1, 0, none⟩) 256 256) (tally true (toksB 0 L)), intRow 3 .i64 (.slice (some ⟨p2, 0, none⟩) 256 256) (tally false (toksB 0 L))] W1) :=
          ⟨Hbe.out.size, fun r hr => by
            rcases List.mem_cons.1 hr with rfl | hr
            · simp only [intRow, hl1]; exact o1
            · rw [List.mem_singleton.1 hr]; simp only [intRow, hl2]; exact o2, by
            refine List.pairwise_cons.2 ⟨fun s hs g hg hg2 => ?_, List.pairwise_singleton _ _⟩
            rw [List.mem_singleton.1 hs] at hg2
            simp only [intRow, Value.ownBlock] at hg hg2
            injection hg with hg; injection hg2 with hg2; omega⟩
        clear own o1 o2 h1 h2 hl1 hl2 HQ1 HQ2
        go_wp2_with fail
        go_ret2
        exact ⟨_, _, rfl, HOw.out, Hbe.out⟩
end Go.Proofs.Ytbboakdfnjjddaa

/- Counts of several segments together, in numbers. No program is named here. -/
namespace Go.Proofs.Ytbboakdfnjjddaa
set_option linter.unusedVariables false
set_option linter.unusedSimpArgs false
set_option maxRecDepth 100000

theorem fc_snoc {α : Type} : ∀ {l : List α} {k : Nat} {a : α}, l[k]? = some a → l.take (k + 1) = l.take k ++ [a]
  | [], k, a, h => by simp at h
  | b :: l, 0, a, h => by simp at h; simp [h]
  | b :: l, k + 1, a, h => by
    have ih := fc_snoc (l := l) (k := k) (a := a) (by simpa using h)
    rw [List.take_succ_cons, ih]; rfl
theorem fc_more {α : Type} {xs : List α} {k : Nat} {x : α} (h : xs[k]? = some x) : xs.drop k = x :: xs.drop (k + 1) := by
  obtain ⟨hk, rfl⟩ := List.getElem?_eq_some_iff.1 h
  exact List.drop_eq_getElem_cons hk
/-- Two lists, added. -/
def addL (F T : List Int) : List Int := List.zipWith (· + ·) F T
theorem addL_length {F T : List Int} (h : T.length = F.length) : (addL F T).length = F.length := by simp [addL, h]
theorem addL_at {F T : List Int} {i : Nat} {x y : Int} (h1 : F[i]? = some x) (h2 : T[i]? = some y) : (addL F T)[i]? = some (x + y) := by
  simp [addL, List.getElem?_zipWith, h1, h2]
/-- The first i are added. -/
def mixL (F T : List Int) (i : Nat) : List Int := (addL F T).take i ++ F.drop i
theorem mix_zero (F T : List Int) : mixL F T 0 = F := by simp [mixL]
theorem mix_end {F T : List Int} (h : T.length = F.length) : mixL F T F.length = addL F T := by
  unfold mixL
  rw [List.take_of_length_le (Nat.le_of_eq (addL_length h)), List.drop_of_length_le (Nat.le_refl _), List.append_nil]
theorem mix_at {F T : List Int} (h : T.length = F.length) {i : Nat} {x : Int} (h1 : F[i]? = some x) : (mixL F T i)[i]? = some x := by
  have hi := (List.getElem?_eq_some_iff.1 h1).1
  have hlen : ((addL F T).take i).length = i := by rw [List.length_take, addL_length h]; omega
  unfold mixL
  rw [List.getElem?_append_right (by omega), hlen, Nat.sub_self, fc_more h1]; rfl
theorem mix_set {F T : List Int} (h : T.length = F.length) {i : Nat} {x y : Int} (h1 : F[i]? = some x) (h2 : T[i]? = some y) : (mixL F T i).set i (x + y) = mixL F T (i + 1) := by
  have hi := (List.getElem?_eq_some_iff.1 h1).1
  have hlen : ((addL F T).take i).length = i := by rw [List.length_take, addL_length h]; omega
  unfold mixL
  rw [fc_snoc (addL_at h1 h2), fc_more h1, List.set_append, if_neg (by omega), hlen, Nat.sub_self]
  simp
/-- The k-th segment of blocks cut so. -/
def piece (ps : List Nat) (L : List (List Int)) (k : Nat) : List (List Int) := (L.drop (ps.take k).sum).take (ps.getD k 0)
/-- The counts of the first k segments. -/
def fcL (b : Bool) (ps : List Nat) (L : List (List Int)) : Nat → List Int
  | 0 => List.replicate 256 0
  | k + 1 => addL (fcL b ps L k) (tally b (toksB 0 (piece ps L k)))
theorem fcL_length (b : Bool) (ps : List Nat) (L : List (List Int)) : ∀ k, (fcL b ps L k).length = 256
  | 0 => by simp [fcL]
  | k + 1 => by
    have ih := fcL_length b ps L k
    rw [fcL, addL_length (by rw [tally_length, ih]), ih]
theorem piece_le (ps : List Nat) (L : List (List Int)) (k : Nat) : (piece ps L k).length ≤ ps.getD k 0 := by unfold piece; rw [List.length_take]; omega
theorem fcL_in (b : Bool) (ps : List Nat) (L : List (List Int)) (hlen : ∀ (M : List (List Int)), (toksB 0 M).length ≤ 64 * M.length) (h400 : ∀ n ∈ ps, n ≤ 400) : ∀ k, ∀ z ∈ fcL b ps L k, 0 ≤ z ∧ z ≤ 25600 * k
  | 0, z, hz => by
    rw [fcL] at hz
    have := (List.mem_replicate.1 hz).2
    omega
  | k + 1, z, hz => by
    have ih := fcL_in b ps L hlen h400 k
    rw [fcL, addL] at hz
    obtain ⟨i, hi⟩ := List.getElem?_of_mem hz
    rw [List.getElem?_zipWith] at hi
    cases h1 : (fcL b ps L k)[i]? with
    | none => rw [h1] at hi; simp at hi
    | some x =>
      cases h2 : (tally b (toksB 0 (piece ps L k)))[i]? with
      | none => rw [h1, h2] at hi; simp at hi
      | some y =>
        rw [h1, h2] at hi
        simp at hi
        have hx := ih x (List.mem_of_getElem? h1)
        have hy := tally_in b _ y (List.mem_of_getElem? h2)
        have h5 := hlen (piece ps L k)
        have h6 := piece_le ps L k
        have h7 : ps.getD k 0 ≤ 400 := by
          rw [List.getD_eq_getElem?_getD]
          cases hq : ps[k]? with
          | none => simp
          | some n => simpa using h400 n (List.mem_of_getElem? hq)
        omega
end Go.Proofs.Ytbboakdfnjjddaa

/- Parts of a slice of blocks. -/
namespace Go.Proofs.Ytbboakdfnjjddaa
open Go.RowKit
set_option linter.unusedVariables false
set_option linter.unusedSimpArgs false
set_option maxRecDepth 100000

def cutR (A : Option Addr) (f h c : Nat) : Value := .slice (if c = f then A else A.map (·.add (f * 64))) (h - f) (c - f)
theorem run_cutR_to (A : Option Addr) (n c h : Nat) (h2 : h ≤ c) (u : World) : (Instr.sliceAt 22 (.slice A n c) none (some (.int .i64 (h : Int))) none).run Try.prog u = .ok (.slice A h c) u := by
  have he : Try.prog.underlying 22 = some (.slice (Try.prog.elem 22)) := by kernel_rfl
  have hz : (sizeOf (Try.prog.elem 22)).run Try.prog u = .ok 64 u := by kernel_rfl
  rw [run_sliceAt_slice _ _ _ _ _ _ he, run_slice_h _ _ _ _ _ he _ _ (by omega) (by omega), hz]
  simp [Result.andThen, sliced]
  intro _
  cases A with
  | none => rfl
  | some a => simp [Addr.add]
theorem run_cutR_end (A : Option Addr) (n c f : Nat) (h1 : f ≤ n) (u : World) : (Instr.sliceAt 22 (.slice A n c) (some (.int .i64 (f : Int))) none none).run Try.prog u = .ok (cutR A f n c) u := by
  have he : Try.prog.underlying 22 = some (.slice (Try.prog.elem 22)) := by kernel_rfl
  have hz : (sizeOf (Try.prog.elem 22)).run Try.prog u = .ok 64 u := by kernel_rfl
  rw [run_sliceAt_slice _ _ _ _ _ _ he, run_slice_l _ _ _ _ _ he _ _ (by omega) (by omega), hz]
  simp [Result.andThen, sliced, cutR]
theorem cutR_drop {w : World} {G c f : Nat} {A : Option Addr} {L : List (List Int)} (hl : ∀ r ∈ L, r.length = 64) (hs : Seen w G A (rowsC L)) (hf : f ≤ L.length) (hc : L.length ≤ c) :
    ∃ A', cutR A f L.length c = .slice A' (L.drop f).length (c - f) ∧ Seen w G A' (rowsC (L.drop f)) := by
  refine ⟨_, by rw [cutR, List.length_drop], ?_⟩
  by_cases hcf : c = f
  · have : L.drop f = [] := List.drop_of_length_le (by omega)
    rw [this]; exact .inl rfl
  · rw [if_neg hcf]
    have h9 := rowsC_take L f
    have h8 : (rowsC (L.take f)).length = f * 64 := by
      rw [rowsC_length (n := 64) (fun r hr => hl r (List.mem_of_mem_take hr)), List.length_take, Nat.min_eq_left hf]
    rcases hs with hs | ⟨g, o, rfl, hg, hcell⟩
    · rw [hs] at h9
      exact .inl (List.append_eq_nil_iff.1 h9.symm).2
    · refine .inr ⟨g, o + f * 64, by simp [addr_add], hg, fun j u hu => ?_⟩
      have h7 : (rowsC L)[f * 64 + j]? = some u := by
        rw [h9, List.getElem?_append_right (by omega), h8, Nat.add_sub_cancel_left]; exact hu
      have := hcell _ _ h7
      rw [← this]; congr 2; omega
theorem cutR_take {w : World} {G k : Nat} {A : Option Addr} {L : List (List Int)} (hs : Seen w G A (rowsC L)) : Seen w G A (rowsC (L.take k)) := by
  have h9 := rowsC_take L k
  rcases hs with hs | ⟨g, o, rfl, hg, hcell⟩
  · rw [hs] at h9
    exact .inl (List.append_eq_nil_iff.1 h9.symm).1
  · refine .inr ⟨g, o, rfl, hg, fun j u hu => hcell j u ?_⟩
    rw [h9, List.getElem?_append_left (List.getElem?_eq_some_iff.1 hu).1]; exact hu
end Go.Proofs.Ytbboakdfnjjddaa

/- The reference's FrameCounts: its contract, for whatever lengths parts cuts. -/
namespace Go.Proofs.Ytbboakdfnjjddaa
open Go.RowKit
set_option linter.unusedVariables false
set_option linter.unusedSimpArgs false
set_option maxRecDepth 100000

theorem cnt_formF {w : World} {B : Nat} {v1 v2 : Value} {X Y : List Int} (h : Owns B [intRow 3 .i64 v1 X, intRow 3 .i64 v2 Y] w) : ∃ A1 c1 A2 c2, v1 = .slice A1 X.length c1 ∧ v2 = .slice A2 Y.length c2 ∧ Seen w w.heap.size A1 (ints .i64 X) ∧ Seen w w.heap.size A2 (ints .i64 Y) := by
  obtain ⟨A1, c1, e1, h1, _, _⟩ := h.seen (List.mem_cons_self ..)
  obtain ⟨A2, c2, e2, h2, _, _⟩ := h.seen (List.mem_cons_of_mem _ (List.mem_cons_self ..))
  exact ⟨A1, c1, A2, c2, e1, e2, h1, h2⟩
set_option maxRecDepth 100000 in
set_option maxHeartbeats 8000000 in
theorem frCounts_any (ps : List Nat) (every : Int) (L : List (List Int)) (A : Option Addr) (c G : Nat) (w : World) (hl : ∀ r ∈ L, r.length = 64) (hcap : L.length ≤ c) (hm : L.length ≤ maxLen) (hin : ∀ r ∈ L, inB (-2047) 2047 r = true) (hs : Seen w G A (rowsC L)) (hG : G ≤ w.heap.size)
    (h400 : ∀ n ∈ ps, n ≤ 400) (hsum : ∀ k, (ps.take k).sum ≤ L.length) (hpl : ps.length ≤ 100000000000)
    (HP : ∀ W, Calls Try.prog 92 #[.int .i64 L.length, .int .i64 every] W fun e w' => ∃ v, e = .returned v ∧ Owns W.heap.size [intRow 3 .i64 v (ps.map Int.ofNat)] w' ∧ Below W.heap.size W w') :
    Calls Try.prog 72 #[.slice A L.length c, .int .i64 every] w fun e w' => ∃ v1 v2, e = .returned (.tuple #[v1, v2]) ∧ Owns w.heap.size [intRow 3 .i64 v1 (fcL true ps L ps.length), intRow 3 .i64 v2 (fcL false ps L ps.length)] w' ∧ Below w.heap.size w w' := by
  have hmk := run_make256
  have HPp := veil HP
  have Hs := veil hs
  clear hs HP
  go_enter Try.func72, Try.ntmps72
  go_upto_region 1 with fail
  go_cut [6, 7] (fun v4 v5 wx => ∃ p1 p2 : Nat, v4 = .slice (some ⟨p1, 0, none⟩) 256 256 ∧ v5 = .slice (some ⟨p2, 0, none⟩) 256 256 ∧ Blk wx p1 zero256 3 ∧ Blk wx p2 zero256 3 ∧ p1 ≠ p2 ∧ w.heap.size ≤ p1 ∧ w.heap.size ≤ p2 ∧ Below w.heap.size w wx)
  case first =>
    go_region
    all_goals (go_wp2; go_meet)
    all_goals refine ⟨_, _, rfl, rfl, (by first | exact two0 _ _ _ _ | exact two1 _ _ _ _), (by first | exact two0 _ _ _ _ | exact two1 _ _ _ _), by omega, by omega, by omega, (below2 w _ _).drew⟩
  case rest =>
    obtain ⟨p1, p2, rfl, rfl, hp1, hp2, n1, l1, l2, hb⟩ := hcut
    have HP1 := veil hp1; have HP2 := veil hp2; have HbC := veil hb
    have hlp1 := hp1.lt; have hlp2 := hp2.lt
    clear hmk hp1 hp2 hb
    go_wp2_with fail
    refine (HPp.out wc).mono ?_
    rintro e w1 ⟨v, rfl, HO1, hb1⟩
    obtain ⟨Ap, cp, hv, hsp, _, _⟩ := HO1.seen (List.mem_cons_self ..)
    have hz1 := hb1.size
    have hvv : v = .slice Ap ps.length cp := by
      have h9 : v = .slice Ap (ps.map Int.ofNat).length cp := hv
      rw [List.length_map] at h9; exact h9
    subst v
    have hpB : Hid (Below wc.heap.size wc w1) := hb1
    have HQ1 := veil (HP1.out.below hb1 hlp1); have HQ2 := veil (HP2.out.below hb1 hlp2); have HbD := veil (HbC.out.trans (hb1.mono HbC.out.size))
    have HO1' := veil HO1
    clear HP1 HP2 HbC hb1 hv HO1 HPp hpB
    go_wp2_with fail
    go_loopg [0, 20] ps.length (fun gk lv iv wr => ∃ (k : Nat) (A' : Option Addr) (c' : Nat) (M : List (List Int)), gk = ps.length - k ∧ k ≤ ps.length ∧ lv = .slice A' M.length c' ∧ iv = .int .i64 (k : Int) ∧ M.length ≤ c' ∧ Hid (M = L.drop (ps.take k).sum) ∧ Hid (Seen w G A' (rowsC M)) ∧ Hid (Blk wr p1 (ints .i64 (fcL true ps L k)) 3) ∧ Hid (Blk wr p2 (ints .i64 (fcL false ps L k)) 3) ∧ Hid (Owns wc.heap.size [intRow 3 .i64 (.slice Ap ps.length cp) (ps.map Int.ofNat)] wr) ∧ Hid (Below w.heap.size w wr))
    case atStart => exact ⟨0, A, c, L, rfl, Nat.zero_le _, rfl, rfl, hcap, veil (by simp), Hs, HQ1, HQ2, HO1', HbD⟩
    case round =>
      clear HQ1 HQ2 HO1' HbD
      obtain ⟨k, A', c', M, rfl, hk, rfl, rfl, hMc, HM, HsM, HQ1, HQ2, HO, Hbe⟩ := hrel
      obtain ⟨W1, hW1⟩ : ∃ W1, W1 = wr := ⟨_, rfl⟩
      subst hW1
      have hzr := Hbe.out.size
      have hzo := HO.out.base
      by_cases hlt : k < ps.length
      · have hltz : (k : Int) < (ps.length : Int) := by omega
        obtain ⟨Ap2, cp2, hv2, hsp2, _, _⟩ := HO.out.seen (List.mem_cons_self ..)
        obtain ⟨rfl, rfl⟩ : Ap = Ap2 ∧ cp = cp2 := by
          have h9 : Value.slice Ap ps.length cp = .slice Ap2 (ps.map Int.ofNat).length cp2 := hv2
          simp at h9; exact h9
        obtain ⟨gp, op, x, rfl, hgp, hx, hcell⟩ := hsp2.int (k := k) (by simp; omega)
        obtain ⟨n, hn, rfl⟩ : ∃ n : Nat, ps[k]? = some n ∧ x = (n : Int) := by
          rw [List.getElem?_map] at hx
          cases hq : ps[k]? with
          | none => rw [hq] at hx; cases hx
          | some n => rw [hq] at hx; simp at hx; exact ⟨n, rfl, hx.symm⟩
        have hn400 := h400 n (List.mem_of_getElem? hn)
        have hsk := hsum (k + 1)
        have hst : (ps.take (k + 1)).sum = (ps.take k).sum + n := by rw [fc_snoc hn]; simp
        have hMl : M.length = L.length - (ps.take k).sum := by rw [HM.out, List.length_drop]
        have hnM : n ≤ M.length := by omega
        have hlM : ∀ r ∈ M, r.length = 64 := fun r hr => hl r (by rw [HM.out] at hr; exact List.mem_of_mem_drop hr)
        have hinM : ∀ r ∈ M, inB (-2047) 2047 r = true := fun r hr => hin r (by rw [HM.out] at hr; exact List.mem_of_mem_drop hr)
        obtain ⟨A2, hA2, hsA2⟩ := cutR_drop hlM HsM.out hnM hMc
        have hct := fun u => run_cutR_to A' M.length c' n (by omega) u
        have hce := fun u => run_cutR_end A' M.length c' n hnM u
        rw [hA2] at hce
        have hMd : M.drop n = L.drop (ps.take (k + 1)).sum := by rw [HM.out, List.drop_drop, hst]
        have hMt : M.take n = piece ps L k := by
          unfold piece
          rw [HM.out, List.getD_eq_getElem?_getD, hn]; rfl
        have htl : (M.take n).length = n := by rw [List.length_take]; omega
        have hC := refCounts_any (M.take n) A' c' G W1 (fun r hr => hlM r (List.mem_of_mem_take hr)) (by omega) (fun r hr => hinM r (List.mem_of_mem_take hr)) (cutR_take (HsM.out.below Hbe.out hG)) (by omega)
        rw [htl, hMt] at hC
        have hin1 := fcL_in true ps L (fun M => toksB_len M 0) h400 k
        have hin2 := fcL_in false ps L (fun M => toksB_len M 0) h400 k
        have hfl1 := fcL_length true ps L k
        have hfl2 := fcL_length false ps L k
        have htl1 := tally_length true (toksB 0 (piece ps L k))
        have htl2 := tally_length false (toksB 0 (piece ps L k))
        have hpk : (toksB 0 (piece ps L k)).length ≤ 25600 := by
          have h5 := toksB_len (piece ps L k) 0
          rw [← hMt, htl] at h5
          rw [← hMt]; omega
        have hit1 := tally_in true (toksB 0 (piece ps L k))
        have hit2 := tally_in false (toksB 0 (piece ps L k))
        have hnx1 : fcL true ps L (k + 1) = addL (fcL true ps L k) (tally true (toksB 0 (piece ps L k))) := rfl
        have hnx2 : fcL false ps L (k + 1) = addL (fcL false ps L k) (tally false (toksB 0 (piece ps L k))) := rfl
        obtain ⟨F1, hF1⟩ : ∃ F, F = fcL true ps L k := ⟨_, rfl⟩
        obtain ⟨F2, hF2⟩ : ∃ F, F = fcL false ps L k := ⟨_, rfl⟩
        obtain ⟨T1, hT1⟩ : ∃ T, T = tally true (toksB 0 (piece ps L k)) := ⟨_, rfl⟩
        obtain ⟨T2, hT2⟩ : ∃ T, T = tally false (toksB 0 (piece ps L k)) := ⟨_, rfl⟩
        rw [← hF1] at HQ1 hin1 hfl1 hnx1
        rw [← hF2] at HQ2 hin2 hfl2 hnx2
        rw [← hT1] at hC htl1 hit1 hnx1
        rw [← hT2] at hC htl2 hit2 hnx2
        have HC := veil hC; have Hin1 := veil hin1; have Hin2 := veil hin2; have Hfl1 := veil hfl1; have Hfl2 := veil hfl2; have Htl1 := veil htl1; have Htl2 := veil htl2; have Hit1 := veil hit1; have Hit2 := veil hit2; have Hnx1 := veil hnx1; have Hnx2 := veil hnx2; have Hpk := veil hpk; have HMd := veil hMd; have HsA2 := veil hsA2
        have hMd2 : (M.drop n).length ≤ c' - n := by rw [List.length_drop]; omega
        clear hC hin1 hin2 hfl1 hfl2 htl1 htl2 hit1 hit2 hnx1 hnx2 hpk hMd hsA2 hF1 hF2 hT1 hT2 hlM hinM hMt htl hst hsk hMl hx hn hsp2 hv2 hA2
        go_wp2_with fail
        refine HC.out.mono ?_
        rintro e w3 ⟨v1, v2, rfl, HO3, hb3⟩
        obtain ⟨A1, c1, A3, c3, rfl, rfl, s1, s2⟩ := cnt_formF HO3
        rw [Htl1.out, Htl2.out] at HO3 ⊢
        have hz3 := hb3.size
        have HR1 := veil (HQ1.out.below hb3 HQ1.out.lt); have HR2 := veil (HQ2.out.below hb3 HQ2.out.lt); have HS3 := veil (HO.out.below hb3); have Hbf := veil (Hbe.out.trans (hb3.mono hzr))
        have HT3 := veil HO3
        clear HQ1 HQ2 HO Hbe HO3 s1 s2 hb3 HC
        have hz1 : mixL F1 T1 0 = F1 := mix_zero _ _
        have hz2 : mixL F2 T2 0 = F2 := mix_zero _ _
        go_wp2_with fail
        go_loopg [36] 256 (fun gk iv wi => ∃ (i : Nat), gk = 256 - i ∧ i ≤ 256 ∧ iv = .int .i64 (i : Int) ∧ Hid (Blk wi p1 (ints .i64 (mixL F1 T1 i)) 3) ∧ Hid (Blk wi p2 (ints .i64 (mixL F2 T2 i)) 3) ∧ Hid (Owns W1.heap.size [intRow 3 .i64 (.slice A1 256 c1) T1, intRow 3 .i64 (.slice A3 256 c3) T2] wi) ∧ Hid (Owns wc.heap.size [intRow 3 .i64 (.slice (some ⟨gp, op, none⟩) ps.length cp) (ps.map Int.ofNat)] wi) ∧ Hid (Below w.heap.size w wi))
        case atStart => exact ⟨0, rfl, by omega, rfl, by rw [hz1]; exact HR1, by rw [hz2]; exact HR2, HT3, HS3, Hbf⟩
        case round =>
          clear HR1 HR2 HT3 HS3 Hbf hz1 hz2
          obtain ⟨i, rfl, hi, rfl, HB1, HB2, HOt, HOs, Hbw⟩ := hrel
          by_cases hlti : i < 256
          · have hltiz : (i : Int) < (256 : Int) := by omega
            obtain ⟨x1, hx1⟩ := some_at (xs := F1) (j := i) (by rw [Hfl1.out]; exact hlti)
            obtain ⟨x2, hx2⟩ := some_at (xs := F2) (j := i) (by rw [Hfl2.out]; exact hlti)
            obtain ⟨A4, c4, A5, c5, e4, e5, s4, s5⟩ := cnt_formF HOt.out
            obtain ⟨rfl, rfl⟩ : A1 = A4 ∧ c1 = c4 := by rw [Htl1.out] at e4; simpa using e4
            obtain ⟨rfl, rfl⟩ : A3 = A5 ∧ c3 = c5 := by rw [Htl2.out] at e5; simpa using e5
            obtain ⟨g4, o4, y1, rfl, hg4, hy1, k2⟩ := s4.int (k := i) (by rw [Htl1.out]; exact hlti)
            obtain ⟨g5, o5, y2, rfl, hg5, hy2, k4⟩ := s5.int (k := i) (by rw [Htl2.out]; exact hlti)
            have hb1 := Hin1.out x1 (List.mem_of_getElem? hx1)
            have hb2 := Hin2.out x2 (List.mem_of_getElem? hx2)
            have hb3 := Hit1.out y1 (List.mem_of_getElem? hy1)
            have hb4 := Hit2.out y2 (List.mem_of_getElem? hy2)
            have hpk := Hpk.out
            have hw1 : IntKind.i64.wrap (x1 + y1) = x1 + y1 := by rw [IntKind.wrap_i64]; omega
            have hw2 : IntKind.i64.wrap (x2 + y2) = x2 + y2 := by rw [IntKind.wrap_i64]; omega
            have k1 := HB1.out.cell (i := i) (v := .int .i64 x1) (ints_at (mix_at (by rw [Htl1.out, Hfl1.out]) hx1))
            have k3 := HB2.out.cell (i := i) (v := .int .i64 x2) (ints_at (mix_at (by rw [Htl2.out, Hfl2.out]) hx2))
            have f1 := HB1.out.frozen i
            have hlq1 := HB1.out.lt
            have hlq2 := HB2.out.lt
            have hset1 := HB1.out.set i (.int .i64 (x1 + y1))
            rw [ints_set, mix_set (by rw [Htl1.out, Hfl1.out]) hx1 hy1] at hset1
            have hgr1 := grown_setCell wr p1 i (.int .i64 (x1 + y1))
            have hO4 : g4 ≠ p1 ∧ g5 ≠ p1 ∧ g5 ≠ p2 ∧ W1.heap.size ≤ g5 := by
              have h1 := (HOt.out.head.lt g4 rfl).1
              have h2 := (HOt.out.tail.head.lt g5 rfl).1
              exact ⟨by omega, by omega, by omega, h2⟩
            have hB2a := HB2.out.kept hgr1 (by intro h; injection h with h; omega)
            have hOta := HOt.out.kept hgr1 (by omega)
            have hOsa := HOs.out.kept hgr1 (by omega)
            have hbwa : Below w.heap.size w (wr.setCell ⟨p1, i, none⟩ (.int .i64 (x1 + y1))) := Hbw.out.grown hgr1 Hbw.out.size (fun j hj => by injection hj with hj; omega)
            have k3a := hB2a.cell (i := i) (v := .int .i64 x2) (ints_at (mix_at (by rw [Htl2.out, Hfl2.out]) hx2))
            have f3 := hB2a.frozen i
            have k4a : (wr.setCell ⟨p1, i, none⟩ (.int .i64 (x1 + y1))).cell? ⟨g5, o5 + i, none⟩ = some (.int .i64 y2) := by
              rw [World.cell?_of_block (hgr1.block g5 (HOt.out.tail.head.lt g5 rfl).2 (fun h => by injection h with h; omega))]; exact k4
            have Hset1 := veil hset1; have HB2a := veil hB2a; have HOta := veil hOta; have HOsa := veil hOsa; have Hbwa := veil hbwa; have K3a := veil k3a; have F3 := veil f3; have K4a := veil k4a
            have Hx2 := veil hx2; have Hy2 := veil hy2
            clear hset1 hgr1 hB2a hOta hOsa hbwa k3a f3 k4a k3 k4 hx1 hy1 hx2 hy2 s4 s5 e4 e5 HB1 HB2 HOt HOs Hbw
            go_upto_region 10 with fail
            go_still_tail 10, (by kernel_rfl)
            repeat still_step
            try refine wpStill_nil ?_
            change wpList _ _ _ _ _ wr.drew
            have f1' : wr.drew.frozen? ⟨p1, i, none⟩ = false := f1
            have k1' : wr.drew.cell? ⟨p1, i, none⟩ = some (.int .i64 x1) := k1
            go_upto_region 11 with fail
            obtain ⟨W5, hW5⟩ : ∃ W5, W5 = (wr.setCell ⟨p1, i, none⟩ (.int .i64 (x1 + y1))).drew := ⟨_, rfl⟩
            rw [← hW5]
            have k3' : W5.cell? ⟨p2, i, none⟩ = some (.int .i64 x2) := by rw [hW5]; exact K3a.out
            have k4' : W5.cell? ⟨g5, o5 + i, none⟩ = some (.int .i64 y2) := by rw [hW5]; exact K4a.out
            have f3' : W5.frozen? ⟨p2, i, none⟩ = false := by rw [hW5]; exact F3.out
            have hset5 : Blk W5 p1 (ints .i64 (mixL F1 T1 (i + 1))) 3 := by rw [hW5]; exact Hset1.out
            have hB25 : Blk W5 p2 (ints .i64 (mixL F2 T2 i)) 3 := by rw [hW5]; exact HB2a.out
            have hOt5 : Owns W1.heap.size [intRow 3 .i64 (.slice (some ⟨g4, o4, none⟩) 256 c1) T1, intRow 3 .i64 (.slice (some ⟨g5, o5, none⟩) 256 c3) T2] W5 := by rw [hW5]; exact HOta.out.drew
            have hOs5 : Owns wc.heap.size [intRow 3 .i64 (.slice (some ⟨gp, op, none⟩) ps.length cp) (ps.map Int.ofNat)] W5 := by rw [hW5]; exact HOsa.out.drew
            have hbw5 : Below w.heap.size w W5 := by rw [hW5]; exact Hbwa.out.drew
            clear hW5 f1' k1' k1 k2 f1
            have hset6 := hB25.set i (.int .i64 (x2 + y2))
            rw [ints_set, mix_set (by rw [Htl2.out, Hfl2.out]) Hx2.out Hy2.out] at hset6
            have hgr6 := grown_setCell W5 p2 i (.int .i64 (x2 + y2))
            have hQ1 := hset5.kept hgr6 (by intro h; injection h with h; omega)
            have hlp5 := hbw5.size
            have hQ3 := hOt5.kept hgr6 (by omega)
            have hQ4 := hOs5.kept hgr6 (by omega)
            have hQ5 : Below w.heap.size w (W5.setCell ⟨p2, i, none⟩ (.int .i64 (x2 + y2))) := hbw5.grown hgr6 hbw5.size (fun j hj => by injection hj with hj; omega)
            have HQ1 := veil hQ1; have HQ2 := veil hset6; have HQ3 := veil hQ3; have HQ4 := veil hQ4; have HQ5 := veil hQ5
            clear hset6 hgr6 hQ1 hQ3 hQ4 hQ5 hset5 hB25 hOt5 hOs5 hbw5 Hset1 HB2a HOta HOsa Hbwa K3a K4a F3
            go_still_tail 10, (by kernel_rfl)
            repeat still_step
            try refine wpStill_nil ?_
            change wpList _ _ _ _ _ W5.drew
            have f3'' : W5.drew.frozen? ⟨p2, i, none⟩ = false := f3'
            have k3'' : W5.drew.cell? ⟨p2, i, none⟩ = some (.int .i64 x2) := k3'
            go_wp2_with fail
            go_roundg (256 - (i + 1))
            case rel => exact ⟨i + 1, rfl, by omega, by go_num, veil (HQ1.out.drewN 1), veil (HQ2.out.drewN 1), veil HQ3.out.drew, veil HQ4.out.drew, veil HQ5.out.drew⟩
            case measure => omega
          · obtain rfl : i = 256 := by omega
            have h1 := HB1.out
            have h2 := HB2.out
            have q1 := mix_end (F := F1) (T := T1) (by rw [Htl1.out, Hfl1.out])
            have q2 := mix_end (F := F2) (T := T2) (by rw [Htl2.out, Hfl2.out])
            rw [Hfl1.out, ← Hnx1.out] at q1
            rw [Hfl2.out, ← Hnx2.out] at q2
            rw [q1] at h1
            rw [q2] at h2
            have H1 := veil h1; have H2 := veil h2
            clear h1 h2 q1 q2
            go_wp2_with fail
            go_roundg (ps.length - (k + 1))
            case rel => exact ⟨k + 1, A2, c' - n, M.drop n, rfl, by omega, by rw [List.length_drop], by go_num, hMd2, HMd, HsA2, H1, H2, HOs, Hbw⟩
            case measure => omega
      · obtain rfl : k = ps.length := by omega
        have h1 := HQ1.out
        have h2 := HQ2.out
        have hl1 := fcL_length true ps L ps.length
        have hl2 := fcL_length false ps L ps.length
        have own := fun (p : Nat) (X : List Int) (hx : X.length = 256) (hp : Blk W1 p (ints .i64 X) 3) (hw : w.heap.size ≤ p) =>
          (⟨by rw [ints_length, hx], .inr ⟨p, 256, (ints .i64 X).toArray, rfl, hw, hp, by omega, by unfold maxLen; omega, by simp [ints_length, hx], by rw [List.take_of_length_le (by simp [ints_length, hx])]⟩⟩ : W1.ownsRow w.heap.size 3 1 (.slice (some ⟨p, 0, none⟩) 256 256) 256 (ints .i64 X))
        have o1 := own p1 _ hl1 h1 l1
        have o2 := own p2 _ hl2 h2 l2
        have HOw : Hid (Owns w.heap.size [intRow 3 .i64 (.slice (some ⟨p1, 0, none⟩) 256 256) (fcL true ps L ps.length), intRow 3 .i64 (.slice (some ⟨p2, 0, none⟩) 256 256) (fcL false ps L ps.length)] W1) :=
          ⟨Hbe.out.size, fun r hr => by
            rcases List.mem_cons.1 hr with rfl | hr
            · simp only [intRow, hl1]; exact o1
            · rw [List.mem_singleton.1 hr]; simp only [intRow, hl2]; exact o2, by
            refine List.pairwise_cons.2 ⟨fun s hs g hg hg2 => ?_, List.pairwise_singleton _ _⟩
            rw [List.mem_singleton.1 hs] at hg2
            simp only [intRow, Value.ownBlock] at hg hg2
            injection hg with hg; injection hg2 with hg2; omega⟩
        clear own o1 o2 h1 h2 hl1 hl2 HQ1 HQ2 HO
        go_wp2_with fail
        go_ret2
        exact ⟨_, _, rfl, HOw.out, Hbe.out⟩
end Go.Proofs.Ytbboakdfnjjddaa

/- Numbers with their places. No program is named here. -/
namespace Go.Proofs.Ytbboakdfnjjddaa
set_option linter.unusedVariables false
set_option linter.unusedSimpArgs false
set_option maxRecDepth 100000

/-- The numbers with their places. -/
def enumI (zs : List Int) : List (Int × Int) := zs.zipIdx.map fun p => ((p.2 : Int), p.1)
theorem enumI_length (zs : List Int) : (enumI zs).length = zs.length := by simp [enumI]
theorem enumI_at {zs : List Int} {k : Nat} {x : Int} (h : zs[k]? = some x) : (enumI zs)[k]? = some ((k : Int), x) := by
  simp [enumI, List.getElem?_zipIdx, h]
end Go.Proofs.Ytbboakdfnjjddaa

/- slices.Backward over numbers: what its iterator hands out. -/
namespace Go.Proofs.Ytbboakdfnjjddaa
open Go.RowKit Go.Shelf
set_option linter.unusedVariables false
set_option linter.unusedSimpArgs false
set_option maxRecDepth 100000
attribute [local go_sem] Oper.semAt_some

/-- .. from the last one down to place r. -/
def backTo (zs : List Int) (r : Nat) : List (Int × Int) := ((enumI zs).drop r).reverse
theorem backTo_all {zs : List Int} {r : Nat} (h : zs.length ≤ r) : backTo zs r = [] := by
  unfold backTo; rw [List.drop_of_length_le (by rw [enumI_length]; exact h)]; rfl
theorem backTo_next {zs : List Int} {k : Nat} {x : Int} (h : zs[k]? = some x) : backTo zs k = backTo zs (k + 1) ++ [((k : Int), x)] := by
  unfold backTo
  obtain ⟨hk, e⟩ := List.getElem?_eq_some_iff.1 (enumI_at h)
  rw [List.drop_eq_getElem_cons hk, e, List.reverse_cons]
theorem backTo_length (zs : List Int) (r : Nat) : (backTo zs r).length = zs.length - r := by simp [backTo, enumI_length]

/-- What a round keeps: all that lay below n₀, and the iterator's box. -/
def KpB (n₀ Bs : Nat) (W W' : World) : Prop := Below n₀ W W' ∧ W'.heap[Bs]? = W.heap[Bs]?
theorem KpB.refl (n₀ Bs : Nat) (W : World) : KpB n₀ Bs W W := ⟨Below.refl _ _, rfl⟩
theorem KpB.trans {n₀ Bs : Nat} {A B C : World} (h : KpB n₀ Bs A B) (k : KpB n₀ Bs B C) : KpB n₀ Bs A C := ⟨h.1.trans k.1, k.2.trans h.2⟩
theorem KpB.put {n₀ Bs N : Nat} (hn : n₀ ≤ N) (hB : Bs < N) (W : World) (l : Nat) (o o' : Obj) (hl : N ≤ l) (ho : W.heap[l]? = some o) (h1 : o.isCells = false) (h2 : o.isWalk = false) : KpB n₀ Bs W (W.putObj l o') :=
  ⟨⟨rfl, rfl, rfl, by simp, fun k hk => World.putObj_heap_other (by omega)⟩, World.putObj_heap_other (by omega)⟩
theorem KpB.cell {n₀ Bs : Nat} {W W' : World} (h : KpB n₀ Bs W W') (i : Nat) : W'.cell? ⟨Bs, i, none⟩ = W.cell? ⟨Bs, i, none⟩ := by simp [World.cell?, h.2]

set_option maxRecDepth 100000 in
set_option maxHeartbeats 2000000 in
theorem back1_in (F : Fence) (n : Nat) (hf : F.fn 127) (hro : F.round = none) (hn : 1 ≤ n) (l Bs n₀ len cap : Nat) (A : Option Addr) (zs : List Int) (hlen : Hid (zs.length = len)) (hl : len ≤ 1048576) (J Jx : List (Int × Int) → World → Prop)
    (hY : ∀ pre x W, J pre W → pre.length < len → YieldAt F (n - 1) Try.prog l #[.int .i64 x.1, .int .i64 x.2] W fun e W' =>
      (e = .returned (.bool true) ∧ J (pre ++ [x]) W' ∧ KpB n₀ Bs W W') ∨ (e = .returned (.bool false) ∧ Jx (pre ++ [x]) W'))
    (W : World) (hBs : W.cell? ⟨Bs, 0, none⟩ = some (.slice A len cap)) (hs : Seen W n₀ A (ints .i64 zs)) (h0 : J [] W) :
    CallsIn F n Try.prog 127 #[.func (.yield l) #[] #[], .pointer (some ⟨Bs, 0, none⟩)] W fun e W' => (∃ v, e = .returned v) ∧
      ((∃ ys, ys = backTo zs 0 ∧ J ys W') ∨ (∃ pre, (∃ r, pre = backTo zs r) ∧ Jx pre W')) := by
  have hY' := veil hY; clear hY
  refine callsIn_of_wp Try.func127 rfl hf ?_ hro
  simp only [Try.ntmps127, List.size_toArray, List.length_cons, List.length_nil, Nat.reduceAdd, Nat.reduceSub, Array.replicate_succ, Array.replicate_zero, List.push_toArray, List.append_toArray, List.nil_append, List.cons_append]
  gi_wp2
  gi_loopw [3] (fun i wr => (i = .int .i64 ((len : Int) - 1) ∧ len = 0 ∧ J (backTo zs 0) wr) ∨ (∃ q : Nat, q < len ∧ i = .int .i64 (q : Int) ∧ J (backTo zs (q + 1)) wr ∧ KpB n₀ Bs W wr) ∨ (i = .int .i64 (-1) ∧ J (backTo zs 0) wr))
    (fun i _ => (intOf i + 1).toNat)
  case atStart =>
    rcases Nat.eq_zero_or_pos len with h | h
    · refine .inl ⟨rfl, h, ?_⟩
      rw [backTo_all (by rw [hlen.out, h]; omega)]; exact h0
    · refine .inr (.inl ⟨len - 1, by omega, by congr 1; omega, ?_, KpB.refl _ _ _⟩)
      rw [backTo_all (by rw [hlen.out]; omega)]; exact h0
  case round =>
    rcases hrel with ⟨rfl, hz, hJ⟩ | ⟨q, hq, rfl, hJ, hnx⟩ | ⟨rfl, hJ⟩
    · subst hz
      gi_wp2
      go_end0
      exact ⟨⟨_, rfl⟩, .inl ⟨_, rfl, hJ⟩⟩
    · obtain ⟨b, off, x, rfl, hb, hx, hc⟩ := hs.int (k := q) (by rw [hlen.out]; exact hq)
      have hcx := (hnx.1.cell (p := ⟨b, off + q, none⟩) hb).trans hc
      have hBx := (hnx.cell 0).trans hBs
      obtain ⟨fn, tmps, assign, body, hy, hR⟩ := hY'.out _ ((q : Int), x) wr hJ (by rw [backTo_length, hlen.out]; omega)
      dsimp only at hy
      have Hn := veil (backTo_next hx)
      clear hx hc
      have hqz : (q : Int) < (len : Int) := by omega
      gi_wp2
      refine hR.mono ?_
      rintro e W3 (⟨rfl, hJ3, hk3⟩ | ⟨rfl, hJx3⟩)
      · rw [← Hn.out] at hJ3
        gi_wp2
        go_roundw
        case rel =>
          rcases Nat.eq_zero_or_pos q with h | h
          · subst h; exact .inr (.inr ⟨rfl, hJ3⟩)
          · refine .inr (.inl ⟨q - 1, by omega, by congr 1; omega, ?_, hnx.trans hk3⟩)
            rw [show q - 1 + 1 = q by omega]; exact hJ3
        case measure => simp [intOf]
      · rw [← Hn.out] at hJx3
        gi_wp2
        refine bodyPost_ret (results_none rfl _ _ _) rfl ?_
        exact ⟨⟨_, rfl⟩, .inr ⟨_, ⟨q, rfl⟩, hJx3⟩⟩
    · gi_wp2
      go_end0
      exact ⟨⟨_, rfl⟩, .inl ⟨_, rfl, hJ⟩⟩
set_option maxHeartbeats 1000000 in
theorem back_in (F : Fence) (n : Nat) (hf : F.fn 116) (hro : F.round = none) (a : Option Addr) (len cap : Nat) (w : World) :
    CallsIn F n Try.prog 116 #[.slice a len cap] w fun e w' => e = .returned (.func (.func 127) #[] #[.pointer (some ⟨w.heap.size, 0, none⟩)]) ∧ w' = w.alloc (.cells #[.slice a len cap] 23) := by
  refine callsIn_of_wp Try.func116 rfl hf ?_ hro
  simp only [Try.ntmps116, List.size_toArray, List.length_cons, List.length_nil, Nat.reduceAdd, Nat.reduceSub, Array.replicate_succ, Array.replicate_zero, List.push_toArray, List.append_toArray, List.nil_append, List.cons_append]
  gi_wp2
  go_ret
  exact ⟨rfl, rfl⟩
theorem back_stops (F : Fence) (n : Nat) (hf : F.fn 127) (hro : F.round = none) (hn : 1 ≤ n) (Bs n₀ cap : Nat) (A : Option Addr) (zs : List Int) (hl : zs.length ≤ 1048576) (w : World) (hBs : Bs < w.heap.size) (hn₀ : n₀ ≤ w.heap.size)
    (hc : w.cell? ⟨Bs, 0, none⟩ = some (.slice A zs.length cap)) (hs : Seen w n₀ A (ints .i64 zs)) :
    SeqStopsK F n Try.prog 127 #[.pointer (some ⟨Bs, 0, none⟩)] (fun x : Int × Int => #[Value.int .i64 x.1, Value.int .i64 x.2]) (KpB n₀ Bs) (fun ys => ys = backTo zs 0) (fun pre => ∃ r, pre = backTo zs r) zs.length w := fun l J Jx W hW _ _ hY h0 =>
  back1_in F n hf hro hn l Bs n₀ zs.length cap A zs rfl hl J Jx hY W ((hW.cell (p := ⟨Bs, 0, none⟩) hBs).trans hc) (hs.below hW hn₀) h0
end Go.Proofs.Ytbboakdfnjjddaa
