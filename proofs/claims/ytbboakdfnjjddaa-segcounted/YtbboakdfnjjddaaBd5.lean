/- Texts shared by the claims of this seat, in one. -/
import Derived.Test.YtbboakdfnjjddaaBd3
import Derived.Test.YtbboakdfnjjddaaBd4
import Derived.Laws.MakeOwn
import Derived.Deep.DeepCutAuto
/- seg.eachToken: its contract, whatever function it hands the tokens to. -/
namespace Go.Proofs.Ytbboakdfnjjddaa
open Go.RowKit
set_option linter.unusedVariables false
set_option linter.unusedSimpArgs false
set_option maxRecDepth 100000

/-- A function that takes tokens: what it keeps, and which blocks it writes. -/
structure Taker (f : FuncId) (caps : Array Value) (G : Nat) (I : World → (Nat → Prop) → List (Bool × Int × Int × Int) → Prop) : Prop where
  enters : Enters Try.prog f
  foot : ∀ {W F acc}, I W F acc → ∀ q, F q → q < W.heap.size ∧ G ≤ q
  keep : ∀ {W W' F acc}, I W F acc → Below W.heap.size W W' → I W' F acc
  take : ∀ {W F acc} (first : Bool) (t : Int × Int × Int), I W F acc → acc.length < 25600 → goodT t → Calls Try.prog f (#[tokV t, .bool first] ++ caps) W fun e W' => e = .returned (.tuple #[]) ∧ ∃ F', I W' F' (acc ++ [(first, t)]) ∧ Only F W W' ∧ ∀ q, F' q → F q ∨ W.heap.size ≤ q
set_option maxRecDepth 100000 in
set_option maxHeartbeats 8000000 in
theorem eachToken_any (f : FuncId) (caps : Array Value) (G : Nat) (I : World → (Nat → Prop) → List (Bool × Int × Int × Int) → Prop) (hT : Taker f caps G I) (F0 : Nat → Prop) (L : List (List Int)) (A : Option Addr) (c : Nat) (w : World)
    (hl : ∀ r ∈ L, r.length = 64) (hm : L.length ≤ maxLen) (hs0 : L.length ≤ 400 → Seen w G A (rowsC L)) (hG : G ≤ w.heap.size) (hI : I w F0 []) :
    Calls Try.prog 24 #[.slice A L.length c, .func (.func f) #[] caps] w fun e w' => e = .returned (.int .i64 (eL L)) ∧ ∃ F acc, I w' F acc ∧ Only F0 w w' ∧ (∀ q, F q → F0 q ∨ w.heap.size ≤ q) ∧ (eL L = 0 → acc = toksB 0 L) := by
  unfold maxLen at hm
  obtain ⟨E, hE⟩ : ∃ E, E = eL L := ⟨_, rfl⟩
  rw [← hE]
  by_cases hbig : 400 < L.length
  · have hbz : (400 : Int) < (L.length : Int) := by omega
    rw [eL_large hbig] at hE
    subst hE
    clear hs0
    go_enter Try.func24, Try.ntmps24
    go_wp2
    go_ret
    exact ⟨rfl, F0, [], hI, Only.refl _ _, fun q h => .inl h, fun h => by cases h⟩
  · have hbz : ¬ (400 : Int) < (L.length : Int) := by omega
    have hs := hs0 (by omega)
    clear hs0
    have HE := veil hE
    have Hbig := veil hbig
    have HTk := veil hT
    have HI0 := veil hI
    have hF0 := hT.foot hI
    have HF0 := veil hF0
    have HTo := veil (fun b cs W h => tokens_any b cs W h)
    unfold blkV at HTo
    clear hE hbig hI hF0 hT
    go_enter Try.func24, Try.ntmps24
    go_wp2_with fail
    go_loopg [5, 17] L.length (fun gk v5 iv wr => ∃ (k : Nat) (before : Int) (F : Nat → Prop), gk = L.length - k ∧ k ≤ L.length ∧ iv = .int .i64 (k : Int) ∧ v5 = .int .i64 before ∧ Hid (before = ahead L k) ∧ Hid (∀ r ∈ L.take k, inB (-2047) 2047 r = true) ∧ Hid (I wr F (toksB 0 (L.take k))) ∧ Hid (Only F0 w wr) ∧ Hid (∀ q, F q → F0 q ∨ w.heap.size ≤ q))
    case atStart => exact ⟨0, 0, F0, rfl, Nat.zero_le _, rfl, rfl, veil rfl, veil (by simp), HI0, veil (Only.refl _ _), veil (fun q h => .inl h)⟩
    case round =>
      clear HI0
      obtain ⟨k, before, F, rfl, hk, rfl, rfl, HA, HIn, HI, HOn, HFs⟩ := hrel
      obtain ⟨W1, hW1⟩ : ∃ W1, W1 = wr := ⟨_, rfl⟩
      subst hW1
      have hzr := HOn.out.size
      by_cases hlt : k < L.length
      · have hltz : (k : Int) < (L.length : Int) := by omega
        have hbe := HOn.out.below hG (fun q hq => (HF0.out q hq).2)
        obtain ⟨g, o, r, rfl, hg, hr, hrl, hrange⟩ := hs.row hl (by omega) hlt
        have hrg := range_below hrange hbe hg
        have hbin := ahead_in (k := k) hl HIn.out hk
        rw [← HA.out] at hbin
        have Hl : Hid ((ints .i64 r).length = 64) := by show _ = _; rw [ints_length, hrl]
        have hone := ints_one (k := .i64) (l := r)
        have hr2 := range_new W1 (ints .i64 r) 47
        have hB2 := Blk.new W1 (ints .i64 r) 47
        have hb2 := below1 W1 (.cells (ints .i64 r).toArray 47)
        have HT2 := veil (HTo.out before r (W1.alloc (.cells (ints .i64 r).toArray 47)) hrl)
        have hI2 := HTk.out.keep HI.out hb2
        have hOn2 : Only F0 w (W1.alloc (.cells (ints .i64 r).toArray 47)) := HOn.out.trans (Only.of_below hb2 (Nat.le_refl _) : Only (fun _ => False) _ _) (fun q h => h.elim)
        have hz2 : (W1.alloc (.cells (ints .i64 r).toArray 47)).heap.size = W1.heap.size + 1 := by simp
        have hF2 := HTk.out.foot HI.out
        have hhd : (ints .i64 r)[0]? = some (.int .i64 (r.headD 0)) := by
          match r, hrl with
          | z :: r, _ => rfl
        have Hr := veil hr
        have Hbin := veil hbin
        have HI2 := veil hI2
        have HOn2 := veil hOn2
        have HF2 := veil hF2
        have Hrl := veil hrl
        obtain ⟨ys, hys⟩ : ∃ ys, ys = ints .i64 r := ⟨_, rfl⟩
        rw [← hys] at hrg Hl hone hr2 hB2 hb2 HT2 HI2 HOn2 hz2 hhd
        have Hys := veil hys
        have hc0 := hB2.cell hhd
        have Hhd := veil hhd
        clear hrange hr hrl hbin hI2 hOn2 hF2 hys hhd hc0 hb2 HI hbe
        go_wp2_with (first
          | (refine wpList_load_mid rfl 47 (.tmp 19) rfl g (o + k * 64) rfl ys _ hrg Try.underlying47 rfl (info_blkn Hl.out) ?_)
          | (refine wpList_store_new W1 rfl 47 (.tmp 7) (.tmp 20) rfl zeroB.toArray ys rfl rfl (info_blkn Hl.out) (by rw [Hl.out]; rfl) hone ?_)
          | (refine wpList_load_mid rfl 47 (.tmp 7) rfl W1.heap.size 0 rfl ys _ hr2 Try.underlying47 rfl (info_blkn Hl.out) ?_)
          | fail)
        refine HT2.out.mono ?_
        rintro e w3 ⟨v, rfl, HO3, hb3⟩
        have hz3 := hb3.size
        have hI3 := HTk.out.keep HI2.out hb3
        have hOn3 : Only F0 w w3 := HOn2.out.trans (Only.of_below hb3 (Nat.le_refl _) : Only (fun _ => False) _ _) (fun q h => h.elim)
        have hB3 := hB2.below hb3 (by omega)
        rw [hz2] at HO3 hz3
        clear hrg hr2 HT2 hb3 hB2 HI2 HOn2
        by_cases hin : inB (-2047) 2047 r = true
        · have hT0 := eT_ok Hbin.out.1 Hbin.out.2 hin
          rw [oT_ok hT0] at HO3
          rw [hT0]
          obtain ⟨T, hT⟩ : ∃ T, T = toksZ before (toL r) := ⟨_, rfl⟩
          have hgood : ∀ t ∈ T, goodT t := by rw [hT]; exact toks_good Hbin.out (toL_in Hrl.out hin)
          have hTl : T.length ≤ 64 := by rw [hT]; exact toks_len _ (toL_length _)
          have hacc : toksB 0 (L.take (k + 1)) = toksB 0 (L.take k) ++ flagT T := by rw [toksB_next Hr.out, hT, HA.out]
          rw [← hT] at HO3
          have hown : ∀ q, v.ownBlock = some q → W1.heap.size + 1 ≤ q ∧ q < w3.heap.size := fun q hq => (HO3.head).lt q hq
          obtain ⟨A5, c5, hv5, hs5, hc5, hm5⟩ := tok_form HO3
          have Hgood := veil hgood
          have Hacc := veil hacc
          have Hown := veil hown
          have Hin : Hid (∀ x ∈ L.take (k + 1), inB (-2047) 2047 x = true) := by
            intro x hx
            rw [take_snoc Hr.out] at hx
            rcases List.mem_append.1 hx with hx | hx
            · exact HIn.out x hx
            · rw [List.mem_singleton.1 hx]; exact hin
          have HO3 := veil HO3
          have Hv5 := veil hv5
          have hlen0 : (toksB 0 (L.take k)).length ≤ 64 * k := by have := toksB_len (L.take k) 0; rw [List.length_take, Nat.min_eq_left hk] at this; exact this
          have hL400 : L.length ≤ 400 := by have := Hbig.out; omega
          have Hlen0 := veil hlen0
          have HI3 := veil hI3; have HOn3 := veil hOn3; have HB3 := veil hB3
          subst v
          clear hT0 hT hgood hacc hown hin hlen0 hI3 hOn3 hB3 hs5 HIn
          go_wp2_with fail
          go_loopg [32] T.length (fun gk iv wi => ∃ (j : Nat) (F' : Nat → Prop), gk = T.length - j ∧ j ≤ T.length ∧ iv = .int .i64 (j : Int) ∧ Hid (I wi F' (toksB 0 (L.take k) ++ flagT (T.take j))) ∧ Hid (Only F0 w wi) ∧ Hid (∀ q, F' q → F q ∨ w3.heap.size ≤ q) ∧ Hid (Owns (W1.heap.size + 1) [tokRow (.slice A5 T.length c5) T] wi) ∧ Hid (Blk wi W1.heap.size ys 47) ∧ w3.heap.size ≤ wi.heap.size)
          case atStart => exact ⟨0, F, rfl, Nat.zero_le _, rfl, by rw [List.take_zero]; simpa [flagT] using HI3, HOn3, veil (fun q h => .inl h), HO3, HB3, Nat.le_refl _⟩
          case round =>
            clear HI3 HOn3 HB3 HO3
            obtain ⟨j, F', rfl, hj, rfl, HI, HOn, HFs', HO, HB, hzi⟩ := hrel
            by_cases hltj : j < T.length
            · have hltjz : (j : Int) < (T.length : Int) := by omega
              obtain ⟨A6, c6, hv6, hs6, hc6, hm6⟩ := tok_form HO.out
              obtain ⟨rfl, rfl⟩ : A5 = A6 ∧ c5 = c6 := by simpa using hv6
              obtain ⟨g6, o6, t0, t1, t2, rfl, hg6, htj, d0, d1, d2⟩ := hs6.tok hltj
              obtain ⟨bf, hbf⟩ : ∃ bf : Bool, ((j : Int) == 0) = bf := ⟨_, rfl⟩
              have hbf2 : bf = decide (j = 0) := by rw [← hbf, Bool.eq_iff_iff]; simp
              have hg := Hgood.out _ (List.mem_of_getElem? htj)
              have hb7 := below1 wr (.cells (tokC (t0, t1, t2)).toArray 56)
              have hI7 := HTk.out.keep HI.out hb7
              have hfl : (toksB 0 (L.take k) ++ flagT (T.take j)).length < 25600 := by
                rw [List.length_append, flagT_length, List.length_take]; have := Hlen0.out; omega
              have HTt := veil (HTk.out.take bf (t0, t1, t2) hI7 hfl hg)
              have hsn : (toksB 0 (L.take k) ++ flagT (T.take j)) ++ [(bf, t0, t1, t2)] = toksB 0 (L.take k) ++ flagT (T.take (j + 1)) := by
                rw [List.append_assoc]
                congr 1
                have h9 := flagT_at htj
                rw [← flagT_take, ← flagT_take, take_snoc h9, hbf2]
              rw [hsn] at HTt
              have hz7 : (wr.alloc (.cells (tokC (t0, t1, t2)).toArray 56)).heap.size = wr.heap.size + 1 := by simp
              have hF7 := HTk.out.foot HI.out
              have hO7 := HO.out.alloc (.cells (tokC (t0, t1, t2)).toArray 56)
              have hB7 := HB.out.below hb7 (by have := HB.out.lt; omega)
              have hOn7 : Only F0 w (wr.alloc (.cells (tokC (t0, t1, t2)).toArray 56)) := HOn.out.trans (Only.of_below hb7 (Nat.le_refl _) : Only (fun _ => False) _ _) (fun q h => h.elim)
              have Hz7 := veil hz7; have HF7 := veil hF7; have HO7 := veil hO7; have HB7 := veil hB7; have HOn7 := veil hOn7
              have hen := HTk.out.enters
              have Hen := veil hen
              clear hbf2 hg hb7 hI7 hfl hsn hz7 hF7 hO7 hB7 hOn7 hen htj hs6 hv6
              go_wp2_with fail
              rw [Hen.out, Oper.upon_enter]
              refine HTt.out.mono ?_
              rintro e w8 ⟨rfl, F8, hI8, hOn8, hF8⟩
              have hz8 := hOn8.size
              have hz7 := Hz7.out
              have hnF : ∀ q, F' q → q < W1.heap.size ∨ w3.heap.size ≤ q := fun q hq => by
                rcases HFs'.out q hq with h | h
                · exact .inl (HF2.out q h).1
                · exact .inr h
              have hOn9 : Only F0 w w8 := HOn7.out.trans hOn8 (fun q hq => by
                rcases HFs'.out q hq with h | h
                · exact HFs.out q h
                · right; omega)
              have hF9 : ∀ q, F8 q → F q ∨ w3.heap.size ≤ q := fun q hq => by
                rcases hF8 q hq with h | h
                · exact HFs'.out q h
                · right; omega
              have hO9 := HO7.out.only hOn8 (fun r hr q hq hFq => by
                rw [List.mem_singleton.1 hr] at hq
                have h1 := Hown.out q hq
                have h2 := hnF q hFq
                omega)
              have hB9 := hOn8.blk HB7.out (fun hFq => by have := hnF _ hFq; omega)
              have HI9 := veil hI8; have HOn9 := veil hOn9; have HF9 := veil hF9; have HO9 := veil hO9; have HB9 := veil hB9
              have hz9 : w3.heap.size ≤ w8.heap.size := by omega
              clear hI8 hOn8 hF8 hnF hOn9 hF9 hO9 hB9 hz7
              go_wp2_with fail
              go_roundg (T.length - (j + 1))
              case rel => exact ⟨j + 1, F8, rfl, by omega, by go_num, HI9, HOn9, HF9, HO9, HB9, hz9⟩
              case measure => omega
            · obtain rfl : j = T.length := by omega
              have hI9 := HI.out
              rw [List.take_length, ← Hacc.out] at hI9
              have HI9 := veil hI9
              have hc0 := HB.out.cell Hhd.out
              have hF9 : ∀ q, F' q → F0 q ∨ w.heap.size ≤ q := fun q hq => by
                rcases HFs'.out q hq with h | h
                · exact HFs.out q h
                · right; omega
              have HF9 := veil hF9
              have HA9 : Hid (r.headD 0 = ahead L (k + 1)) := (ahead_next Hr.out).symm
              clear hI9 hF9
              go_wp2_with fail
              go_roundg (L.length - (k + 1))
              case rel => exact ⟨k + 1, r.headD 0, F', rfl, by omega, by go_num, by rw [List.headD_eq_head?_getD], HA9, Hin, HI9, HOn, HF9⟩
              case measure => omega
        · have h5 := eL_bad Hbig.out Hr.out (by simpa using hin)
          rw [← HE.out] at h5
          subst h5
          rw [eT_bad (fun h => hin h.2.2)]
          have HI3 := veil hI3; have HOn3 := veil hOn3
          clear hI3 hOn3 HO3 hB3 hin
          go_wp2_with fail
          go_ret
          exact ⟨rfl, F, _, HI3.out, HOn3.out, HFs.out, fun h => by cases h⟩
      · obtain rfl : k = L.length := by omega
        have h5 := eL_ok Hbig.out (fun r hr => HIn.out r (by rw [List.take_of_length_le (Nat.le_refl _)]; exact hr))
        rw [← HE.out] at h5
        subst h5
        go_wp2_with fail
        go_ret
        exact ⟨rfl, F, _, HI.out, HOn.out, HFs.out, by rw [List.take_length]⟩
end Go.Proofs.Ytbboakdfnjjddaa

/- How often each symbol comes, in numbers. No program is named here. -/
namespace Go.Proofs.Ytbboakdfnjjddaa
set_option linter.unusedVariables false
set_option linter.unusedSimpArgs false
set_option maxRecDepth 100000

def bump (xs : List Int) (i : Nat) : List Int := xs.set i (xs.getD i 0 + 1)
/-- How often each symbol is a first one (true), or another one. -/
def tally (b : Bool) (l : List (Bool × Int × Int × Int)) : List Int := l.foldl (fun a x => if x.1 = b then bump a x.2.1.toNat else a) (List.replicate 256 0)
theorem tally_nil (b : Bool) : tally b [] = List.replicate 256 0 := rfl
theorem tally_snoc (b : Bool) (l : List (Bool × Int × Int × Int)) (x : Bool × Int × Int × Int) : tally b (l ++ [x]) = if x.1 = b then bump (tally b l) x.2.1.toNat else tally b l := by
  unfold tally; rw [List.foldl_append]; rfl
theorem bump_length (xs : List Int) (i : Nat) : (bump xs i).length = xs.length := by simp [bump]
theorem snoc_list {α : Type} {P : List α → Prop} (h0 : P []) (h1 : ∀ l x, P l → P (l ++ [x])) (l : List α) : P l := by
  have : ∀ n (l : List α), l.length = n → P l := by
    intro n
    induction n with
    | zero => intro l h; rw [List.length_eq_zero_iff.1 h]; exact h0
    | succ n ih =>
      intro l h
      have hne : l ≠ [] := by intro e; rw [e] at h; cases h
      rw [← List.dropLast_concat_getLast hne]
      exact h1 _ _ (ih _ (by simp [h]))
  exact this _ l rfl
theorem tally_length (b : Bool) (l : List (Bool × Int × Int × Int)) : (tally b l).length = 256 := by
  refine snoc_list (P := fun l => (tally b l).length = 256) (by simp [tally_nil]) (fun l x h => ?_) l
  rw [tally_snoc]
  split
  · rw [bump_length]; exact h
  · exact h
theorem tally_in (b : Bool) (l : List (Bool × Int × Int × Int)) : ∀ z ∈ tally b l, 0 ≤ z ∧ z ≤ l.length := by
  refine snoc_list (P := fun l => ∀ z ∈ tally b l, 0 ≤ z ∧ z ≤ (l.length : Int)) (fun z hz => ?_) (fun l x h z hz => ?_) l
  · rw [tally_nil] at hz; rw [(List.mem_replicate.1 hz).2]; simp
  · rw [tally_snoc] at hz
    simp only [List.length_append, List.length_singleton]
    split at hz
    · unfold bump at hz
      rcases List.mem_or_eq_of_mem_set hz with hz | rfl
      · have := h z hz; omega
      · by_cases hi : x.2.1.toNat < (tally b l).length
        · obtain ⟨y, hy⟩ := some_at hi
          have := h y (List.mem_of_getElem? hy)
          rw [List.getD_eq_getElem?_getD, hy]; simp only [Option.getD_some]; omega
        · rw [List.getD_eq_getElem?_getD, List.getElem?_eq_none (by omega)]; simp only [Option.getD_none]; omega
    · have := h z hz; omega
theorem sum_set : ∀ (xs : List Int) (i : Nat), i < xs.length → (bump xs i).sum = xs.sum + 1
  | [], i, h => by simp at h
  | x :: xs, 0, h => by simp [bump]; omega
  | x :: xs, i + 1, h => by
    have := sum_set xs i (by simpa using h)
    unfold bump at this ⊢
    simp only [List.set_cons_succ, List.getD_cons_succ, List.sum_cons]
    omega
/-- How many tokens were counted. -/
theorem tally_sum (b : Bool) (l : List (Bool × Int × Int × Int)) (h : ∀ x ∈ l, goodT x.2) : (tally b l).sum = ((l.filter fun x => x.1 = b).length : Nat) := by
  have : ∀ l : List (Bool × Int × Int × Int), (∀ x ∈ l, goodT x.2) → (tally b l).sum = ((l.filter fun x => x.1 = b).length : Nat) := by
    intro l
    refine snoc_list (P := fun l => (∀ x ∈ l, goodT x.2) → (tally b l).sum = ((l.filter fun x => x.1 = b).length : Nat)) (fun _ => by rw [tally_nil]; simp) (fun l x ih hx => ?_) l
    have h1 := ih fun y hy => hx y (by simp [hy])
    have h2 := (hx x (by simp)).2
    rw [tally_snoc, List.filter_append]
    by_cases e : x.1 = b
    · rw [if_pos e, sum_set _ _ (by rw [tally_length]; omega), h1]
      simp [e]
    · rw [if_neg e, h1]
      simp [e]
  exact this l h
/-- What Counts answers. -/
def cntL (b : Bool) (L : List (List Int)) : List Int := if eL L = 0 then tally b (toksB 0 L) else []
end Go.Proofs.Ytbboakdfnjjddaa

/- seg.Counts: its contract. -/
namespace Go.Proofs.Ytbboakdfnjjddaa
open Go.RowKit
set_option linter.unusedVariables false
set_option linter.unusedSimpArgs false
set_option maxRecDepth 100000

theorem info_int' : (Try.prog.info? 3).map (fun i => (i.zero, i.size, i.bytes)) = some (some (.int .i64 0), 1, 8) := by kernel_rfl
def zero256 : List Value := ints .i64 (List.replicate 256 0)
theorem made256 : madeCells (Value.int .i64 0).cells 256 = zero256.toArray := by kernel_rfl
theorem run_make256 (u : World) : (Instr.makeSlice 23 (.int .i64 256) (.int .i64 256)).run Try.prog u = .ok (.slice (some ⟨u.heap.size, 0, none⟩) 256 256) (u.alloc (.cells zero256.toArray 3)) := by
  obtain ⟨i0, hi, hz0, hz1, hz2⟩ := info_parts info_int'
  have h := run_make (P := Try.prog) u 23 3 i0 (.int .i64 0) Try.underlying23 hi hz0 .i64 .i64 256 256 (by omega) (by omega) (by rw [hz2]; omega) (by omega)
  rw [hz1] at h
  rw [← made256]
  exact h
theorem four0 (w : World) (xs : List Value) (t : TypeId) (b c d : Obj) : Blk ((((w.alloc (.cells xs.toArray t)).alloc b).alloc c).alloc d).drew w.heap.size xs t :=
  ((((Blk.new w xs t).below (below1 _ b) (by simp)).below (below1 _ c) (by simp; omega)).below (below1 _ d).drew (by simp; omega))
theorem four1 (w : World) (xs : List Value) (t : TypeId) (a c d : Obj) : Blk ((((w.alloc a).alloc (.cells xs.toArray t)).alloc c).alloc d).drew (w.heap.size + 1) xs t := by
  have h := Blk.new (w.alloc a) xs t
  rw [World.size_alloc] at h
  exact (h.below (below1 _ c) (by simp)).below (below1 _ d).drew (by simp)
theorem four2 (w : World) (xs : List Value) (t : TypeId) (a b d : Obj) : Blk ((((w.alloc a).alloc b).alloc (.cells xs.toArray t)).alloc d).drew (w.heap.size + 1 + 1) xs t := by
  have h := Blk.new ((w.alloc a).alloc b) xs t
  rw [World.size_alloc, World.size_alloc] at h
  exact h.below (below1 _ d).drew (by simp)
theorem four3 (w : World) (xs : List Value) (t : TypeId) (a b c : Obj) : Blk ((((w.alloc a).alloc b).alloc c).alloc (.cells xs.toArray t)).drew (w.heap.size + 1 + 1 + 1) xs t := by
  have h := Blk.new (((w.alloc a).alloc b).alloc c) xs t
  rw [World.size_alloc, World.size_alloc, World.size_alloc] at h
  exact h
theorem four_below (w : World) (a b c d : Obj) : Below w.heap.size w ((((w.alloc a).alloc b).alloc c).alloc d).drew :=
  (((((Below.refl _ w).alloc (Nat.le_refl _) a).alloc (by simp) b).alloc (by simp; omega) c).alloc (by simp; omega) d).drew
/-- What the counting keeps. -/
def cntI (c1 c2 p1 p2 : Nat) (W : World) (F : Nat → Prop) (acc : List (Bool × Int × Int × Int)) : Prop :=
  Blk W c1 [.slice (some ⟨p1, 0, none⟩) 256 256] 23 ∧ Blk W c2 [.slice (some ⟨p2, 0, none⟩) 256 256] 23 ∧ Blk W p1 (ints .i64 (tally true acc)) 3 ∧ Blk W p2 (ints .i64 (tally false acc)) 3 ∧ F = fun q => q = p1 ∨ q = p2
theorem ints_set (xs : List Int) (i : Nat) (x : Int) : (ints .i64 xs).set i (.int .i64 x) = ints .i64 (xs.set i x) := by simp [ints]
theorem cnt_step (c1 c2 p1 p2 : Nat) (first : Bool) (t : Int × Int × Int) (W : World) (F : Nat → Prop) (acc : List (Bool × Int × Int × Int)) (h : cntI c1 c2 p1 p2 W F acc) (hacc : acc.length < 25600) (hg : goodT t) (h1 : c1 ≠ p1) (h2 : c1 ≠ p2) (h3 : c2 ≠ p1) (h4 : c2 ≠ p2) (h5 : p1 ≠ p2) :
    Calls Try.prog 25 #[tokV t, .bool first, .pointer (some ⟨c1, 0, none⟩), .pointer (some ⟨c2, 0, none⟩)] W fun e W' => e = .returned (.tuple #[]) ∧ ∃ F', cntI c1 c2 p1 p2 W' F' (acc ++ [(first, t)]) ∧ Only F W W' ∧ ∀ q, F' q → F q ∨ W.heap.size ≤ q := by
  obtain ⟨hc1, hc2, hp1, hp2, rfl⟩ := h
  obtain ⟨t0, t1, t2⟩ := t
  have hs := hg.2
  simp only at hs
  obtain ⟨S, hS⟩ : ∃ S : Nat, t0 = (S : Int) := ⟨t0.toNat, by omega⟩
  subst hS
  have hS256 : S < 256 := by omega
  have hb0 := below1 W (.cells #[.int .i64 (S : Int), .int .i64 t1, .int .i64 t2] 56)
  have d1 := (hc1.below hb0 hc1.lt).cell (i := 0) (v := .slice (some ⟨p1, 0, none⟩) 256 256) rfl
  have d2 := (hc2.below hb0 hc2.lt).cell (i := 0) (v := .slice (some ⟨p2, 0, none⟩) 256 256) rfl
  have hz0 : (W.alloc (.cells #[.int .i64 (S : Int), .int .i64 t1, .int .i64 t2] 56)).heap.size = W.heap.size + 1 := by simp
  cases first with
  | true =>
    obtain ⟨x, hx⟩ := some_at (xs := tally true acc) (j := S) (by rw [tally_length]; exact hS256)
    have hxb := tally_in true acc x (List.mem_of_getElem? hx)
    have hB := hp1.below hb0 hp1.lt
    have k1 := hB.cell (i := S) (v := .int .i64 x) (ints_at hx)
    have f1 := hB.frozen S
    have hB2 := hB.set S (.int .i64 (x + 1))
    have hbump : (ints .i64 (tally true acc)).set S (.int .i64 (x + 1)) = ints .i64 (tally true (acc ++ [(true, (S : Int), t1, t2)])) := by
      rw [tally_snoc, if_pos rfl, ints_set]; unfold bump
      rw [Int.toNat_natCast, List.getD_eq_getElem?_getD, hx]; rfl
    rw [hbump] at hB2
    have hsame : tally false (acc ++ [(true, (S : Int), t1, t2)]) = tally false acc := by rw [tally_snoc, if_neg (by simp)]
    have hg2 := grown_setCell (W.alloc (.cells #[.int .i64 (S : Int), .int .i64 t1, .int .i64 t2] 56)) p1 S (.int .i64 (x + 1))
    have hw : IntKind.i64.wrap (x + 1) = x + 1 := by rw [IntKind.wrap_i64]; omega
    have hres : Hid (∃ F', cntI c1 c2 p1 p2 ((W.alloc (.cells #[.int .i64 (S : Int), .int .i64 t1, .int .i64 t2] 56)).setCell ⟨p1, S, none⟩ (.int .i64 (x + 1))) F' (acc ++ [(true, (S : Int), t1, t2)]) ∧ Only (fun q => q = p1 ∨ q = p2) W ((W.alloc (.cells #[.int .i64 (S : Int), .int .i64 t1, .int .i64 t2] 56)).setCell ⟨p1, S, none⟩ (.int .i64 (x + 1))) ∧ ∀ q, F' q → (fun q => q = p1 ∨ q = p2) q ∨ W.heap.size ≤ q) :=
      ⟨fun q => q = p1 ∨ q = p2, ⟨(hc1.below hb0 hc1.lt).kept hg2 (by simpa using h1), (hc2.below hb0 hc2.lt).kept hg2 (by simpa using h3), hB2, by rw [hsame]; exact (hp2.below hb0 hp2.lt).kept hg2 (by simpa using h5.symm), rfl⟩,
        (Only.of_below hb0 (Nat.le_refl _) : Only (fun q => q = p1 ∨ q = p2) _ _).trans (Only.of_grown hg2 (F := fun q => q = p1 ∨ q = p2) (fun g e => .inl (.inl (by injection e with e; exact e.symm)))) (fun q h => .inl h), fun q h => .inl h⟩
    clear hB2 hbump hsame hg2 hc1 hc2 hp1 hp2 hB hb0 hx hxb hg
    unfold tokV
    go_enter Try.func25, Try.ntmps25
    go_wp2_with fail
    go_end0
    exact ⟨rfl, hres.out⟩
  | false =>
    obtain ⟨x, hx⟩ := some_at (xs := tally false acc) (j := S) (by rw [tally_length]; exact hS256)
    have hxb := tally_in false acc x (List.mem_of_getElem? hx)
    have hB := hp2.below hb0 hp2.lt
    have k1 := hB.cell (i := S) (v := .int .i64 x) (ints_at hx)
    have f1 := hB.frozen S
    have hB2 := hB.set S (.int .i64 (x + 1))
    have hbump : (ints .i64 (tally false acc)).set S (.int .i64 (x + 1)) = ints .i64 (tally false (acc ++ [(false, (S : Int), t1, t2)])) := by
      rw [tally_snoc, if_pos rfl, ints_set]; unfold bump
      rw [Int.toNat_natCast, List.getD_eq_getElem?_getD, hx]; rfl
    rw [hbump] at hB2
    have hsame : tally true (acc ++ [(false, (S : Int), t1, t2)]) = tally true acc := by rw [tally_snoc, if_neg (by simp)]
    have hg2 := grown_setCell (W.alloc (.cells #[.int .i64 (S : Int), .int .i64 t1, .int .i64 t2] 56)) p2 S (.int .i64 (x + 1))
    have hw : IntKind.i64.wrap (x + 1) = x + 1 := by rw [IntKind.wrap_i64]; omega
    have hres : Hid (∃ F', cntI c1 c2 p1 p2 ((W.alloc (.cells #[.int .i64 (S : Int), .int .i64 t1, .int .i64 t2] 56)).setCell ⟨p2, S, none⟩ (.int .i64 (x + 1))) F' (acc ++ [(false, (S : Int), t1, t2)]) ∧ Only (fun q => q = p1 ∨ q = p2) W ((W.alloc (.cells #[.int .i64 (S : Int), .int .i64 t1, .int .i64 t2] 56)).setCell ⟨p2, S, none⟩ (.int .i64 (x + 1))) ∧ ∀ q, F' q → (fun q => q = p1 ∨ q = p2) q ∨ W.heap.size ≤ q) :=
      ⟨fun q => q = p1 ∨ q = p2, ⟨(hc1.below hb0 hc1.lt).kept hg2 (by simpa using h2), (hc2.below hb0 hc2.lt).kept hg2 (by simpa using h4), by rw [hsame]; exact (hp1.below hb0 hp1.lt).kept hg2 (by simpa using h5), hB2, rfl⟩,
        (Only.of_below hb0 (Nat.le_refl _) : Only (fun q => q = p1 ∨ q = p2) _ _).trans (Only.of_grown hg2 (F := fun q => q = p1 ∨ q = p2) (fun g e => .inl (.inr (by injection e with e; exact e.symm)))) (fun q h => .inl h), fun q h => .inl h⟩
    clear hB2 hbump hsame hg2 hc1 hc2 hp1 hp2 hB hb0 hx hxb hg
    unfold tokV
    go_enter Try.func25, Try.ntmps25
    go_wp2_with fail
    go_end0
    exact ⟨rfl, hres.out⟩
theorem cnt_taker (c1 c2 p1 p2 G : Nat) (h1 : c1 ≠ p1) (h2 : c1 ≠ p2) (h3 : c2 ≠ p1) (h4 : c2 ≠ p2) (h5 : p1 ≠ p2) (g1 : G ≤ p1) (g2 : G ≤ p2) : Taker 25 #[.pointer (some ⟨c1, 0, none⟩), .pointer (some ⟨c2, 0, none⟩)] G (cntI c1 c2 p1 p2) where
  enters := Enters.of Try.func25 (by kernel_rfl) (by kernel_rfl)
  foot h q hq := by
    obtain ⟨_, _, hp1, hp2, rfl⟩ := h
    rcases hq with rfl | rfl
    · exact ⟨hp1.lt, g1⟩
    · exact ⟨hp2.lt, g2⟩
  keep h hb := by
    obtain ⟨hc1, hc2, hp1, hp2, rfl⟩ := h
    exact ⟨hc1.below hb hc1.lt, hc2.below hb hc2.lt, hp1.below hb hp1.lt, hp2.below hb hp2.lt, rfl⟩
  take first t h ha hg := cnt_step c1 c2 p1 p2 first t _ _ _ h ha hg h1 h2 h3 h4 h5
set_option maxHeartbeats 4000000 in
theorem segCounts_any (L : List (List Int)) (A : Option Addr) (c G : Nat) (w : World) (hl : ∀ r ∈ L, r.length = 64) (hm : L.length ≤ maxLen) (hs : L.length ≤ 400 → Seen w G A (rowsC L)) (hG : G ≤ w.heap.size) :
    Calls Try.prog 9 #[.slice A L.length c] w fun e w' => ∃ v1 v2, e = .returned (.tuple #[v1, v2, .int .i64 (eL L)]) ∧ Owns w.heap.size [intRow 3 .i64 v1 (cntL true L), intRow 3 .i64 v2 (cntL false L)] w' ∧ Below w.heap.size w w' := by
  have HEa := veil (fun c1 c2 p1 p2 W (hT : Taker 25 #[.pointer (some ⟨c1, 0, none⟩), .pointer (some ⟨c2, 0, none⟩)] w.heap.size (cntI c1 c2 p1 p2)) (hI : cntI c1 c2 p1 p2 W (fun q => q = p1 ∨ q = p2) []) (hb : Below w.heap.size w W) =>
    eachToken_any _ _ w.heap.size (cntI c1 c2 p1 p2) hT (fun q => q = p1 ∨ q = p2) L A c W hl hm (fun h => ((hs h).below hb hG).up hG) hb.size hI)
  obtain ⟨E, hE⟩ : ∃ E, E = eL L := ⟨_, rfl⟩
  obtain ⟨X, hX⟩ : ∃ X, X = cntL true L := ⟨_, rfl⟩
  obtain ⟨Y, hY⟩ : ∃ Y, Y = cntL false L := ⟨_, rfl⟩
  rw [← hE, ← hX, ← hY]
  rw [← hE] at HEa
  have HXe : Hid (E ≠ 0 → X = [] ∧ Y = []) := fun h => ⟨hX.trans (if_neg (by rw [← hE]; exact h)), hY.trans (if_neg (by rw [← hE]; exact h))⟩
  have HXo : Hid (E = 0 → X = tally true (toksB 0 L) ∧ Y = tally false (toksB 0 L)) := fun h => ⟨hX.trans (if_pos (by rw [← hE]; exact h)), hY.trans (if_pos (by rw [← hE]; exact h))⟩
  have HE := veil hE
  clear hX hY
  have hmk := run_make256
  clear hE hs
  go_enter Try.func9, Try.ntmps9
  go_wp2_with fail
  go_cut [5, 6] (fun v5 v6 wx => ∃ c1 c2 p1 p2 : Nat, v5 = .pointer (some ⟨c1, 0, none⟩) ∧ v6 = .pointer (some ⟨c2, 0, none⟩) ∧ Blk wx c1 [.slice (some ⟨p1, 0, none⟩) 256 256] 23 ∧ Blk wx c2 [.slice (some ⟨p2, 0, none⟩) 256 256] 23 ∧ Blk wx p1 zero256 3 ∧ Blk wx p2 zero256 3 ∧ c1 ≠ c2 ∧ p1 ≠ p2 ∧ c1 ≠ p1 ∧ c1 ≠ p2 ∧ c2 ≠ p1 ∧ c2 ≠ p2 ∧ w.heap.size ≤ c1 ∧ w.heap.size ≤ c2 ∧ w.heap.size ≤ p1 ∧ w.heap.size ≤ p2 ∧ Below w.heap.size w wx)
  case first =>
    go_region
    all_goals (go_wp2; go_meet)
    all_goals refine ⟨_, _, _, _, rfl, rfl, (by first | exact four0 _ _ _ _ _ _ | exact four1 _ _ _ _ _ _ | exact four2 _ _ _ _ _ _ | exact four3 _ _ _ _ _ _), (by first | exact four0 _ _ _ _ _ _ | exact four1 _ _ _ _ _ _ | exact four2 _ _ _ _ _ _ | exact four3 _ _ _ _ _ _), (by first | exact four0 _ _ _ _ _ _ | exact four1 _ _ _ _ _ _ | exact four2 _ _ _ _ _ _ | exact four3 _ _ _ _ _ _), (by first | exact four0 _ _ _ _ _ _ | exact four1 _ _ _ _ _ _ | exact four2 _ _ _ _ _ _ | exact four3 _ _ _ _ _ _), by omega, by omega, by omega, by omega, by omega, by omega, by omega, by omega, by omega, by omega, four_below _ _ _ _ _⟩
  case rest =>
    obtain ⟨c1, c2, p1, p2, rfl, rfl, hc1, hc2, hp1, hp2, n1, n2, n3, n4, n5, n6, l1, l2, l3, l4, hb⟩ := hcut
    have HEc := veil (HEa.out c1 c2 p1 p2 wc (cnt_taker c1 c2 p1 p2 w.heap.size n3 n4 n5 n6 n2 l3 l4) ⟨hc1, hc2, hp1, hp2, rfl⟩ hb)
    have hzc := hb.size
    clear hmk HEa hc1 hc2 hp1 hp2
    go_wp2_with fail
    refine HEc.out.mono ?_
    rintro e w2 ⟨rfl, F, acc, ⟨hc1, hc2, hp1, hp2, rfl⟩, hOn, _, hacc⟩
    have hb2 : Below w.heap.size w w2 := hb.trans (hOn.below hzc (fun q hq => by rcases hq with rfl | rfl <;> assumption))
    have hl1 := tally_length true acc
    have hl2 := tally_length false acc
    by_cases h0 : E = 0
    · subst h0
      have hac := hacc rfl
      have d1 := hc1.cell (i := 0) (v := .slice (some ⟨p1, 0, none⟩) 256 256) rfl
      have d2 := hc2.cell (i := 0) (v := .slice (some ⟨p2, 0, none⟩) 256 256) rfl
      have own := fun (p : Nat) (X : List Int) (hx : X.length = 256) (hp : Blk w2 p (ints .i64 X) 3) (hw : w.heap.size ≤ p) =>
        (⟨by rw [ints_length, hx], .inr ⟨p, 256, (ints .i64 X).toArray, rfl, hw, hp, by omega, by unfold maxLen; omega, by simp [ints_length, hx], by rw [List.take_of_length_le (by simp [ints_length, hx])]⟩⟩ : w2.ownsRow w.heap.size 3 1 (.slice (some ⟨p, 0, none⟩) 256 256) 256 (ints .i64 X))
      have o1 := own p1 _ hl1 hp1 l3
      have o2 := own p2 _ hl2 hp2 l4
      have HOw : Hid (Owns w.heap.size [intRow 3 .i64 (.slice (some ⟨p1, 0, none⟩) 256 256) (tally true acc), intRow 3 .i64 (.slice (some ⟨p2, 0, none⟩) 256 256) (tally false acc)] w2) :=
        ⟨hb2.size, fun r hr => by
          rcases List.mem_cons.1 hr with rfl | hr
          · simp only [intRow, hl1]; exact o1
          · rw [List.mem_singleton.1 hr]; simp only [intRow, hl2]; exact o2, by
          refine List.pairwise_cons.2 ⟨fun s hs g hg hg2 => ?_, List.pairwise_singleton _ _⟩
          rw [List.mem_singleton.1 hs] at hg2
          simp only [intRow, Value.ownBlock] at hg hg2
          injection hg with hg; injection hg2 with hg2; omega⟩
      clear own o1 o2 hc1 hc2 hp1 hp2 hacc hOn
      go_wp2_with fail
      go_quiet (fail)
      go_wp2_with fail
      go_ret3
      exact ⟨_, _, rfl, by rw [(HXo.out trivial).1, (HXo.out trivial).2, ← hac]; exact HOw.out.drewN _, hb2.drewN _⟩
    · have hbe : (E != 0) = true := by simpa using h0
      have H0 := veil h0
      clear h0 hacc hOn hc1 hc2 hp1 hp2
      go_wp2_with fail
      go_ret3
      exact ⟨_, _, rfl, by rw [(HXe.out H0.out).1, (HXe.out H0.out).2]; exact ((Owns.nil hb2.size).fresh _ _).fresh _ _, hb2⟩
end Go.Proofs.Ytbboakdfnjjddaa

/- The reference's Counts: its contract. -/
namespace Go.Proofs.Ytbboakdfnjjddaa
open Go.RowKit
set_option linter.unusedVariables false
set_option linter.unusedSimpArgs false
set_option maxRecDepth 100000

theorem two0 (w : World) (xs : List Value) (t : TypeId) (b : Obj) : Blk ((w.alloc (.cells xs.toArray t)).alloc b).drew w.heap.size xs t :=
  (Blk.new w xs t).below (below1 _ b).drew (by simp)
theorem two1 (w : World) (xs : List Value) (t : TypeId) (a : Obj) : Blk ((w.alloc a).alloc (.cells xs.toArray t)).drew (w.heap.size + 1) xs t := by
  have h := Blk.new (w.alloc a) xs t
  rw [World.size_alloc] at h
  exact h
set_option maxRecDepth 100000 in
set_option maxHeartbeats 8000000 in
theorem refCounts_any (L : List (List Int)) (A : Option Addr) (c G : Nat) (w : World) (hl : ∀ r ∈ L, r.length = 64) (h400 : L.length ≤ 400) (hin : ∀ r ∈ L, inB (-2047) 2047 r = true) (hs : Seen w G A (rowsC L)) (hG : G ≤ w.heap.size) :
    Calls Try.prog 11 #[.slice A L.length c] w fun e w' => ∃ v1 v2, e = .returned (.tuple #[v1, v2]) ∧ Owns w.heap.size [intRow 3 .i64 v1 (tally true (toksB 0 L)), intRow 3 .i64 v2 (tally false (toksB 0 L))] w' ∧ Below w.heap.size w w' := by
  have hmk := run_make256
  have HTo := veil (fun b cs W h => refTokens_any b cs W h)
  unfold blkV at HTo
  have Hs := veil hs
  clear hs
  go_enter Try.func11, Try.ntmps11
  go_upto_region 1 with fail
  go_cut [4, 5] (fun v4 v5 wx => ∃ p1 p2 : Nat, v4 = .slice (some ⟨p1, 0, none⟩) 256 256 ∧ v5 = .slice (some ⟨p2, 0, none⟩) 256 256 ∧ Blk wx p1 zero256 3 ∧ Blk wx p2 zero256 3 ∧ p1 ≠ p2 ∧ w.heap.size ≤ p1 ∧ w.heap.size ≤ p2 ∧ Below w.heap.size w wx)
  case first =>
    go_region
    all_goals (go_wp2; go_meet)
    all_goals refine ⟨_, _, rfl, rfl, (by first | exact two0 _ _ _ _ | exact two1 _ _ _ _), (by first | exact two0 _ _ _ _ | exact two1 _ _ _ _), by omega, by omega, by omega, (below2 w _ _).drew⟩
  case rest =>
    obtain ⟨p1, p2, rfl, rfl, hp1, hp2, n1, l1, l2, hb⟩ := hcut
    have HP1 := veil hp1; have HP2 := veil hp2; have HbC := veil hb
    clear hmk hp1 hp2 hb
    go_wp2_with fail
    go_loopg [17] L.length (fun gk iv wr => ∃ (k : Nat), gk = L.length - k ∧ k ≤ L.length ∧ iv = .int .i64 (k : Int) ∧ Hid (Blk wr p1 (ints .i64 (tally true (toksB 0 (L.take k)))) 3) ∧ Hid (Blk wr p2 (ints .i64 (tally false (toksB 0 (L.take k)))) 3) ∧ Hid (Below w.heap.size w wr))
    case atStart => exact ⟨0, rfl, Nat.zero_le _, rfl, HP1, HP2, HbC⟩
    case round =>
      clear HP1 HP2 HbC
      obtain ⟨k, rfl, hk, rfl, HQ1, HQ2, Hbe⟩ := hrel
      obtain ⟨W1, hW1⟩ : ∃ W1, W1 = wr := ⟨_, rfl⟩
      subst hW1
      have hzr := Hbe.out.size
      by_cases hlt : k < L.length
      · have hltz : (k : Int) < (L.length : Int) := by omega
        obtain ⟨g, o, r, rfl, hg, hr, hrl, hrange⟩ := Hs.out.row hl (by omega) hlt
        have hrg := range_below hrange Hbe.out (by omega)
        have hbin := ahead_in (k := k) hl (fun r hr => hin r (List.mem_of_mem_take hr)) hk
        have Hl : Hid ((ints .i64 r).length = 64) := by show _ = _; rw [ints_length, hrl]
        have hone := ints_one (k := .i64) (l := r)
        have hr2 := range_new W1 (ints .i64 r) 47
        have hB2 := Blk.new W1 (ints .i64 r) 47
        have hb2 := below1 W1 (.cells (ints .i64 r).toArray 47)
        have HT2 := veil (HTo.out (ahead L k) r (W1.alloc (.cells (ints .i64 r).toArray 47)) hrl)
        have hz2 : (W1.alloc (.cells (ints .i64 r).toArray 47)).heap.size = W1.heap.size + 1 := by simp
        have hS2 : Seen (W1.alloc (.cells (ints .i64 r).toArray 47)) G (some ⟨g, o, none⟩) (rowsC L) := (Hs.out.below Hbe.out hG).below hb2 (by omega)
        have Hr := veil hr
        have Hbin := veil hbin
        have Hrl := veil hrl
        have hinr := hin r (List.mem_of_getElem? hr)
        have Hinr := veil hinr
        obtain ⟨ys, hys⟩ : ∃ ys, ys = ints .i64 r := ⟨_, rfl⟩
        rw [← hys] at hrg Hl hone hr2 hB2 hb2 HT2 hz2 hS2
        have HS2 := veil hS2
        have Hhb2 := veil hb2
        clear hrange hr hrl hbin hys hinr hS2 hb2 hB2
        go_upto_if 23 with (first
          | (refine wpList_load_mid rfl 47 (.tmp 20) rfl g (o + k * 64) rfl ys _ hrg Try.underlying47 rfl (info_blkn Hl.out) ?_)
          | (refine wpList_store_new W1 rfl 47 (.tmp 7) (.tmp 21) rfl zeroB.toArray ys rfl rfl (info_blkn Hl.out) (by rw [Hl.out]; rfl) hone ?_)
          | fail)
        obtain ⟨W2, hW2⟩ : ∃ W2, W2 = W1.alloc (.cells ys.toArray 47) := ⟨_, rfl⟩
        rw [← hW2] at hr2 hz2 HT2 HS2 Hhb2 ⊢
        clear hrg hW2
        go_cut [8] (fun v8 wx => v8 = .int .i64 (ahead L k) ∧ wx = W2)
        case first =>
          by_cases hk0 : k = 0
          · subst hk0
            go_wp2_with fail
            go_meet
            case rel => exact ⟨rfl, rfl⟩
          · obtain ⟨j, rfl⟩ : ∃ j, k = j + 1 := ⟨k - 1, by omega⟩
            obtain ⟨g9, o9, r9, hA9, hg9, hr9, hrl9, hrange9⟩ := HS2.out.row hl (by omega) (k := j) (by omega)
            simp only [Option.some.injEq, Addr.mk.injEq, and_true] at hA9
            obtain ⟨rfl, rfl⟩ := hA9
            have hc9 := hrange9 0 (.int .i64 (ahead L (j + 1))) (by
              rw [ahead_next hr9]
              match r9, hrl9 with
              | z :: r9, _ => rfl)
            rw [Nat.add_zero] at hc9
            have hw9 : IntKind.i64.wrap (((j + 1 : Nat) : Int) - 1) = (j : Int) := by rw [IntKind.wrap_i64]; omega
            have hp9 : (0 : Int) < ((j + 1 : Nat) : Int) := by omega
            obtain ⟨AH, hAH⟩ : ∃ AH, AH = ahead L (j + 1) := ⟨_, rfl⟩
            rw [← hAH] at hc9
            have HAH := veil hAH
            clear hrange9 hr9 hAH
            go_wp2_with fail
            go_meet
            case rel => exact ⟨by rw [HAH.out], rfl⟩
        case rest =>
          obtain ⟨rfl, hwc⟩ := hcut
          have hwc' : wc = W2 := hwc
          subst wc
          go_wp2_with (first
            | (refine wpList_load_mid rfl 47 (.tmp 7) rfl W1.heap.size 0 rfl ys _ hr2 Try.underlying47 rfl (info_blkn Hl.out) ?_)
            | fail)
          refine HT2.out.mono ?_
          rintro e w3 ⟨v, rfl, HO3, hb3⟩
          have hz3 := hb3.size
          rw [hz2] at hz3 HO3
          have hlp1 := HQ1.out.lt
          have hlp2 := HQ2.out.lt
          have hT0 := eT_ok Hbin.out.1 Hbin.out.2 Hinr.out
          rw [oT_ok hT0] at HO3
          rw [hT0]
          obtain ⟨T, hT⟩ : ∃ T, T = toksZ (ahead L k) (toL r) := ⟨_, rfl⟩
          have hgood : ∀ t ∈ T, goodT t := by rw [hT]; exact toks_good Hbin.out (toL_in Hrl.out Hinr.out)
          have hTl : T.length ≤ 64 := by rw [hT]; exact toks_len _ (toL_length _)
          have hacc : toksB 0 (L.take (k + 1)) = toksB 0 (L.take k) ++ flagT T := by rw [toksB_next Hr.out, hT]
          have hlen0 : (toksB 0 (L.take k)).length ≤ 64 * k := by have := toksB_len (L.take k) 0; rw [List.length_take, Nat.min_eq_left hk] at this; exact this
          rw [← hT] at HO3
          obtain ⟨A5, c5, hv5, _, _, _⟩ := tok_form HO3
          have hQ13 := (HQ1.out.below Hhb2.out hlp1).below hb3 (by rw [hz2]; omega)
          have hQ23 := (HQ2.out.below Hhb2.out hlp2).below hb3 (by rw [hz2]; omega)
          have hbw3 := (Hbe.out.trans (Hhb2.out.mono Hbe.out.size)).trans (hb3.mono (by rw [hz2]; omega))
          have Hgood := veil hgood; have Hacc := veil hacc; have HO3 := veil HO3; have HQ13 := veil hQ13; have HQ23 := veil hQ23; have Hbw3 := veil hbw3; have Hlen0 := veil hlen0
          subst v
          clear hT0 hT hgood hacc hlen0 hQ13 hQ23 hbw3 hb3 hr2 HT2 HS2 Hhb2
          go_wp2_with fail
          go_loopg [38] T.length (fun gk iv wi => ∃ (j : Nat), gk = T.length - j ∧ j ≤ T.length ∧ iv = .int .i64 (j : Int) ∧ Hid (Blk wi p1 (ints .i64 (tally true (toksB 0 (L.take k) ++ flagT (T.take j)))) 3) ∧ Hid (Blk wi p2 (ints .i64 (tally false (toksB 0 (L.take k) ++ flagT (T.take j)))) 3) ∧ Hid (Owns (W1.heap.size + 1) [tokRow (.slice A5 T.length c5) T] wi) ∧ Hid (Below w.heap.size w wi) ∧ Hid (w3.heap.size ≤ wi.heap.size))
          case atStart => exact ⟨0, rfl, Nat.zero_le _, rfl, by rw [List.take_zero]; simpa [flagT] using HQ13, by rw [List.take_zero]; simpa [flagT] using HQ23, HO3, Hbw3, veil (Nat.le_refl _)⟩
          case round =>
            clear HQ13 HQ23 HO3 Hbw3
            obtain ⟨j, rfl, hj, rfl, Hp1, Hp2, HO, Hbw, Hzi⟩ := hrel
            by_cases hltj : j < T.length
            · have hltjz : (j : Int) < (T.length : Int) := by omega
              obtain ⟨A6, c6, hv6, hs6, hc6, hm6⟩ := tok_form HO.out
              obtain ⟨rfl, rfl⟩ : A5 = A6 ∧ c5 = c6 := by simpa using hv6
              obtain ⟨g6, o6, t0, t1, t2, rfl, hg6, htj, d0, d1, d2⟩ := hs6.tok hltj
              have hg := (Hgood.out _ (List.mem_of_getElem? htj)).2
              simp only at hg
              obtain ⟨S, hS⟩ : ∃ S : Nat, t0 = (S : Int) := ⟨t0.toNat, by omega⟩
              subst hS
              have hS256 : S < 256 := by omega
              have hzi := Hzi.out
              have hlenk := Hlen0.out
              have hb7 := below1 wr (.cells #[.int .i64 (S : Int), .int .i64 t1, .int .i64 t2] 56)
              have hfl : (toksB 0 (L.take k) ++ flagT (T.take j)).length < 25600 := by
                rw [List.length_append, flagT_length, List.length_take]; omega
              have hsn : (toksB 0 (L.take k) ++ flagT (T.take j)) ++ [(decide (j = 0), (S : Int), t1, t2)] = toksB 0 (L.take k) ++ flagT (T.take (j + 1)) := by
                rw [List.append_assoc]
                congr 1
                have h9 := flagT_at htj
                rw [← flagT_take, ← flagT_take, take_snoc h9]
              clear hs6 hv6 htj hg
              by_cases hj0 : j = 0
              · have hjb : ((j : Int) == 0) = true := by simp [hj0]
                obtain ⟨x, hx⟩ := some_at (xs := tally true (toksB 0 (L.take k) ++ flagT (T.take j))) (j := S) (by rw [tally_length]; exact hS256)
                have hxb := tally_in true (toksB 0 (L.take k) ++ flagT (T.take j)) x (List.mem_of_getElem? hx)
                have hB := Hp1.out.below hb7 (by have := Hp1.out.lt; omega)
                have k1 := hB.cell (i := S) (v := .int .i64 x) (ints_at hx)
                have f1 := hB.frozen S
                have hB2 := hB.set S (.int .i64 (x + 1))
                have hbump : (ints .i64 (tally true (toksB 0 (L.take k) ++ flagT (T.take j)))).set S (.int .i64 (x + 1)) = ints .i64 (tally true (toksB 0 (L.take k) ++ flagT (T.take (j + 1)))) := by
                  rw [← hsn, tally_snoc, if_pos (by simp [hj0]), ints_set]; unfold bump
                  rw [Int.toNat_natCast, List.getD_eq_getElem?_getD, hx]; rfl
                rw [hbump] at hB2
                have hsame : tally false (toksB 0 (L.take k) ++ flagT (T.take (j + 1))) = tally false (toksB 0 (L.take k) ++ flagT (T.take j)) := by rw [← hsn, tally_snoc, if_neg (by simp [hj0])]
                have hg2 := grown_setCell (wr.alloc (.cells #[.int .i64 (S : Int), .int .i64 t1, .int .i64 t2] 56)) p1 S (.int .i64 (x + 1))
                have hw : IntKind.i64.wrap (x + 1) = x + 1 := by rw [IntKind.wrap_i64]; omega
                have hq9 := (Hp2.out.below hb7 (by have := Hp2.out.lt; omega)).kept hg2 (by simp; omega)
                rw [← hsame] at hq9
                have hO9 := (HO.out.below hb7).kept hg2 (by omega)
                have hbw9 := ((Hbw.out.trans (hb7.mono Hbw.out.size)).grown hg2 (by have := Hbw.out.size; simp; omega) (fun j hj => by injection hj with hj; omega) : Below w.heap.size w _)
                have HB2 := veil hB2; have Hq9 := veil hq9; have HO9 := veil hO9; have Hbw9 := veil hbw9
                have hzi9 : w3.heap.size ≤ ((wr.alloc (.cells #[.int .i64 (S : Int), .int .i64 t1, .int .i64 t2] 56)).setCell ⟨p1, S, none⟩ (.int .i64 (x + 1))).heap.size := by have := hg2.size; simp at this; simp; omega
                have Hzi9 := veil hzi9
                clear hB hB2 hbump hsame hg2 hq9 hO9 hbw9 hzi9 hx hxb hb7 hlp1 hlp2 hsn hj0
                go_wp2_with fail
                go_roundg (T.length - (j + 1))
                case rel => exact ⟨j + 1, rfl, by omega, by go_num, HB2, Hq9, HO9, Hbw9, Hzi9⟩
                case measure => omega
              · have hjb : ((j : Int) == 0) = false := by simp [hj0]
                obtain ⟨x, hx⟩ := some_at (xs := tally false (toksB 0 (L.take k) ++ flagT (T.take j))) (j := S) (by rw [tally_length]; exact hS256)
                have hxb := tally_in false (toksB 0 (L.take k) ++ flagT (T.take j)) x (List.mem_of_getElem? hx)
                have hB := Hp2.out.below hb7 (by have := Hp2.out.lt; omega)
                have k1 := hB.cell (i := S) (v := .int .i64 x) (ints_at hx)
                have f1 := hB.frozen S
                have hB2 := hB.set S (.int .i64 (x + 1))
                have hbump : (ints .i64 (tally false (toksB 0 (L.take k) ++ flagT (T.take j)))).set S (.int .i64 (x + 1)) = ints .i64 (tally false (toksB 0 (L.take k) ++ flagT (T.take (j + 1)))) := by
                  rw [← hsn, tally_snoc, if_pos (by simp [hj0]), ints_set]; unfold bump
                  rw [Int.toNat_natCast, List.getD_eq_getElem?_getD, hx]; rfl
                rw [hbump] at hB2
                have hsame : tally true (toksB 0 (L.take k) ++ flagT (T.take (j + 1))) = tally true (toksB 0 (L.take k) ++ flagT (T.take j)) := by rw [← hsn, tally_snoc, if_neg (by simp [hj0])]
                have hg2 := grown_setCell (wr.alloc (.cells #[.int .i64 (S : Int), .int .i64 t1, .int .i64 t2] 56)) p2 S (.int .i64 (x + 1))
                have hw : IntKind.i64.wrap (x + 1) = x + 1 := by rw [IntKind.wrap_i64]; omega
                have hq9 := (Hp1.out.below hb7 (by have := Hp1.out.lt; omega)).kept hg2 (by simp; omega)
                rw [← hsame] at hq9
                have hO9 := (HO.out.below hb7).kept hg2 (by omega)
                have hbw9 := ((Hbw.out.trans (hb7.mono Hbw.out.size)).grown hg2 (by have := Hbw.out.size; simp; omega) (fun j hj => by injection hj with hj; omega) : Below w.heap.size w _)
                have HB2 := veil hB2; have Hq9 := veil hq9; have HO9 := veil hO9; have Hbw9 := veil hbw9
                have hzi9 : w3.heap.size ≤ ((wr.alloc (.cells #[.int .i64 (S : Int), .int .i64 t1, .int .i64 t2] 56)).setCell ⟨p2, S, none⟩ (.int .i64 (x + 1))).heap.size := by have := hg2.size; simp at this; simp; omega
                have Hzi9 := veil hzi9
                clear hB hB2 hbump hsame hg2 hq9 hO9 hbw9 hzi9 hx hxb hb7 hlp1 hlp2 hsn hj0
                go_wp2_with fail
                go_roundg (T.length - (j + 1))
                case rel => exact ⟨j + 1, rfl, by omega, by go_num, Hq9, HB2, HO9, Hbw9, Hzi9⟩
                case measure => omega
            · obtain rfl : j = T.length := by omega
              have h1 := Hp1.out
              have h2 := Hp2.out
              rw [List.take_length, ← Hacc.out] at h1 h2
              have H1 := veil h1; have H2 := veil h2
              clear h1 h2 hlp1 hlp2
              go_wp2_with fail
              go_roundg (L.length - (k + 1))
              case rel => exact ⟨k + 1, rfl, by omega, by go_num, H1, H2, Hbw⟩
              case measure => omega
      · obtain rfl : k = L.length := by omega
        have h1 := HQ1.out
        have h2 := HQ2.out
        rw [List.take_length] at h1 h2
        have hl1 := tally_length true (toksB 0 L)
        have hl2 := tally_length false (toksB 0 L)
        have own := fun (p : Nat) (X : List Int) (hx : X.length = 256) (hp : Blk W1 p (ints .i64 X) 3) (hw : w.heap.size ≤ p) =>
          (⟨by rw [ints_length, hx], .inr ⟨p, 256, (ints .i64 X).toArray, rfl, hw, hp, by omega, by unfold maxLen; omega, by simp [ints_length, hx], by rw [List.take_of_length_le (by simp [ints_length, hx])]⟩⟩ : W1.ownsRow w.heap.size 3 1 (.slice (some ⟨p, 0, none⟩) 256 256) 256 (ints .i64 X))
        have o1 := own p1 _ hl1 h1 l1
        have o2 := own p2 _ hl2 h2 l2
        have HOw : Hid (Owns w.heap.size [intRow 3 .i64 (.slice (some ⟨p1, 0, none⟩) 256 256) (tally true (toksB 0 L)), intRow 3 .i64 (.slice (some ⟨p2, 0, none⟩) 256 256) (tally false (toksB 0 L))] W1) :=
          ⟨Hbe.out.size, fun r hr => by
            rcases List.mem_cons.1 hr with rfl | hr
            · simp only [intRow, hl1]; exact o1
            · rw [List.mem_singleton.1 hr]; simp only [intRow, hl2]; exact o2, by
            refine List.pairwise_cons.2 ⟨fun s hs g hg hg2 => ?_, List.pairwise_singleton _ _⟩
            rw [List.mem_singleton.1 hs] at hg2
            simp only [intRow, Value.ownBlock] at hg hg2
            injection hg with hg; injection hg2 with hg2; omega⟩
        clear own o1 o2 h1 h2 hl1 hl2 HQ1 HQ2
        go_wp2_with fail
        go_ret2
        exact ⟨_, _, rfl, HOw.out, Hbe.out⟩
end Go.Proofs.Ytbboakdfnjjddaa

/- Counts of several segments together, in numbers. No program is named here. -/
namespace Go.Proofs.Ytbboakdfnjjddaa
set_option linter.unusedVariables false
set_option linter.unusedSimpArgs false
set_option maxRecDepth 100000

theorem fc_snoc {α : Type} : ∀ {l : List α} {k : Nat} {a : α}, l[k]? = some a → l.take (k + 1) = l.take k ++ [a]
  | [], k, a, h => by simp at h
  | b :: l, 0, a, h => by simp at h; simp [h]
  | b :: l, k + 1, a, h => by
    have ih := fc_snoc (l := l) (k := k) (a := a) (by simpa using h)
    rw [List.take_succ_cons, ih]; rfl
theorem fc_more {α : Type} {xs : List α} {k : Nat} {x : α} (h : xs[k]? = some x) : xs.drop k = x :: xs.drop (k + 1) := by
  obtain ⟨hk, rfl⟩ := List.getElem?_eq_some_iff.1 h
  exact List.drop_eq_getElem_cons hk
/-- Two lists, added. -/
def addL (F T : List Int) : List Int := List.zipWith (· + ·) F T
theorem addL_length {F T : List Int} (h : T.length = F.length) : (addL F T).length = F.length := by simp [addL, h]
theorem addL_at {F T : List Int} {i : Nat} {x y : Int} (h1 : F[i]? = some x) (h2 : T[i]? = some y) : (addL F T)[i]? = some (x + y) := by
  simp [addL, List.getElem?_zipWith, h1, h2]
/-- The first i are added. -/
def mixL (F T : List Int) (i : Nat) : List Int := (addL F T).take i ++ F.drop i
theorem mix_zero (F T : List Int) : mixL F T 0 = F := by simp [mixL]
theorem mix_end {F T : List Int} (h : T.length = F.length) : mixL F T F.length = addL F T := by
  unfold mixL
  rw [List.take_of_length_le (Nat.le_of_eq (addL_length h)), List.drop_of_length_le (Nat.le_refl _), List.append_nil]
theorem mix_at {F T : List Int} (h : T.length = F.length) {i : Nat} {x : Int} (h1 : F[i]? = some x) : (mixL F T i)[i]? = some x := by
  have hi := (List.getElem?_eq_some_iff.1 h1).1
  have hlen : ((addL F T).take i).length = i := by rw [List.length_take, addL_length h]; omega
  unfold mixL
  rw [List.getElem?_append_right (by omega), hlen, Nat.sub_self, fc_more h1]; rfl
theorem mix_set {F T : List Int} (h : T.length = F.length) {i : Nat} {x y : Int} (h1 : F[i]? = some x) (h2 : T[i]? = some y) : (mixL F T i).set i (x + y) = mixL F T (i + 1) := by
  have hi := (List.getElem?_eq_some_iff.1 h1).1
  have hlen : ((addL F T).take i).length = i := by rw [List.length_take, addL_length h]; omega
  unfold mixL
  rw [fc_snoc (addL_at h1 h2), fc_more h1, List.set_append, if_neg (by omega), hlen, Nat.sub_self]
  simp
/-- The k-th segment of blocks cut so. -/
def piece (ps : List Nat) (L : List (List Int)) (k : Nat) : List (List Int) := (L.drop (ps.take k).sum).take (ps.getD k 0)
/-- The counts of the first k segments. -/
def fcL (b : Bool) (ps : List Nat) (L : List (List Int)) : Nat → List Int
  | 0 => List.replicate 256 0
  | k + 1 => addL (fcL b ps L k) (tally b (toksB 0 (piece ps L k)))
theorem fcL_length (b : Bool) (ps : List Nat) (L : List (List Int)) : ∀ k, (fcL b ps L k).length = 256
  | 0 => by simp [fcL]
  | k + 1 => by
    have ih := fcL_length b ps L k
    rw [fcL, addL_length (by rw [tally_length, ih]), ih]
theorem piece_le (ps : List Nat) (L : List (List Int)) (k : Nat) : (piece ps L k).length ≤ ps.getD k 0 := by unfold piece; rw [List.length_take]; omega
theorem fcL_in (b : Bool) (ps : List Nat) (L : List (List Int)) (hlen : ∀ (M : List (List Int)), (toksB 0 M).length ≤ 64 * M.length) (h400 : ∀ n ∈ ps, n ≤ 400) : ∀ k, ∀ z ∈ fcL b ps L k, 0 ≤ z ∧ z ≤ 25600 * k
  | 0, z, hz => by
    rw [fcL] at hz
    have := (List.mem_replicate.1 hz).2
    omega
  | k + 1, z, hz => by
    have ih := fcL_in b ps L hlen h400 k
    rw [fcL, addL] at hz
    obtain ⟨i, hi⟩ := List.getElem?_of_mem hz
    rw [List.getElem?_zipWith] at hi
    cases h1 : (fcL b ps L k)[i]? with
    | none => rw [h1] at hi; simp at hi
    | some x =>
      cases h2 : (tally b (toksB 0 (piece ps L k)))[i]? with
      | none => rw [h1, h2] at hi; simp at hi
      | some y =>
        rw [h1, h2] at hi
        simp at hi
        have hx := ih x (List.mem_of_getElem? h1)
        have hy := tally_in b _ y (List.mem_of_getElem? h2)
        have h5 := hlen (piece ps L k)
        have h6 := piece_le ps L k
        have h7 : ps.getD k 0 ≤ 400 := by
          rw [List.getD_eq_getElem?_getD]
          cases hq : ps[k]? with
          | none => simp
          | some n => simpa using h400 n (List.mem_of_getElem? hq)
        omega
end Go.Proofs.Ytbboakdfnjjddaa

/- Parts of a slice of blocks. -/
namespace Go.Proofs.Ytbboakdfnjjddaa
open Go.RowKit
set_option linter.unusedVariables false
set_option linter.unusedSimpArgs false
set_option maxRecDepth 100000

def cutR (A : Option Addr) (f h c : Nat) : Value := .slice (if c = f then A else A.map (·.add (f * 64))) (h - f) (c - f)
theorem run_cutR_to (A : Option Addr) (n c h : Nat) (h2 : h ≤ c) (u : World) : (Instr.sliceAt 22 (.slice A n c) none (some (.int .i64 (h : Int))) none).run Try.prog u = .ok (.slice A h c) u := by
  have he : Try.prog.underlying 22 = some (.slice (Try.prog.elem 22)) := by kernel_rfl
  have hz : (sizeOf (Try.prog.elem 22)).run Try.prog u = .ok 64 u := by kernel_rfl
  rw [run_sliceAt_slice _ _ _ _ _ _ he, run_slice_h _ _ _ _ _ he _ _ (by omega) (by omega), hz]
  simp [Result.andThen, sliced]
  intro _
  cases A with
  | none => rfl
  | some a => simp [Addr.add]
theorem run_cutR_end (A : Option Addr) (n c f : Nat) (h1 : f ≤ n) (u : World) : (Instr.sliceAt 22 (.slice A n c) (some (.int .i64 (f : Int))) none none).run Try.prog u = .ok (cutR A f n c) u := by
  have he : Try.prog.underlying 22 = some (.slice (Try.prog.elem 22)) := by kernel_rfl
  have hz : (sizeOf (Try.prog.elem 22)).run Try.prog u = .ok 64 u := by kernel_rfl
  rw [run_sliceAt_slice _ _ _ _ _ _ he, run_slice_l _ _ _ _ _ he _ _ (by omega) (by omega), hz]
  simp [Result.andThen, sliced, cutR]
theorem cutR_drop {w : World} {G c f : Nat} {A : Option Addr} {L : List (List Int)} (hl : ∀ r ∈ L, r.length = 64) (hs : Seen w G A (rowsC L)) (hf : f ≤ L.length) (hc : L.length ≤ c) :
    ∃ A', cutR A f L.length c = .slice A' (L.drop f).length (c - f) ∧ Seen w G A' (rowsC (L.drop f)) := by
  refine ⟨_, by rw [cutR, List.length_drop], ?_⟩
  by_cases hcf : c = f
  · have : L.drop f = [] := List.drop_of_length_le (by omega)
    rw [this]; exact .inl rfl
  · rw [if_neg hcf]
    have h9 := rowsC_take L f
    have h8 : (rowsC (L.take f)).length = f * 64 := by
      rw [rowsC_length (n := 64) (fun r hr => hl r (List.mem_of_mem_take hr)), List.length_take, Nat.min_eq_left hf]
    rcases hs with hs | ⟨g, o, rfl, hg, hcell⟩
    · rw [hs] at h9
      exact .inl (List.append_eq_nil_iff.1 h9.symm).2
    · refine .inr ⟨g, o + f * 64, by simp [addr_add], hg, fun j u hu => ?_⟩
      have h7 : (rowsC L)[f * 64 + j]? = some u := by
        rw [h9, List.getElem?_append_right (by omega), h8, Nat.add_sub_cancel_left]; exact hu
      have := hcell _ _ h7
      rw [← this]; congr 2; omega
theorem cutR_take {w : World} {G k : Nat} {A : Option Addr} {L : List (List Int)} (hs : Seen w G A (rowsC L)) : Seen w G A (rowsC (L.take k)) := by
  have h9 := rowsC_take L k
  rcases hs with hs | ⟨g, o, rfl, hg, hcell⟩
  · rw [hs] at h9
    exact .inl (List.append_eq_nil_iff.1 h9.symm).1
  · refine .inr ⟨g, o, rfl, hg, fun j u hu => hcell j u ?_⟩
    rw [h9, List.getElem?_append_left (List.getElem?_eq_some_iff.1 hu).1]; exact hu
end Go.Proofs.Ytbboakdfnjjddaa
