/- Texts shared by the claims of this seat, in one. -/
import Derived.Test.YtbboakdfnjjddaaBd10
import Derived.Test.YtbboakdfnjjddaaBd5
import Derived.Test.YtbboakdfnjjddaaBd4
import Derived.Test.YtbboakdfnjjddaaBd7
import Derived.Test.YtbboakdfnjjddaaBd1
import Derived.Great.BuildSlice
import Derived.Laws.MakeOwn
import Derived.Test.YtbboakdfnjjddaaBd2
import Derived.Test.YtbboakdfnjjddaaBd3
/- seg's bit reader: onlyFillLeft, its contract. -/
namespace Go.Proofs.Ytbboakdfnjjddaa
open Go.RowKit
set_option linter.unusedVariables false
set_option linter.unusedSimpArgs false
set_option maxRecDepth 100000

theorem all_id {s : List Bool} : s.all id = true ↔ s = List.replicate s.length true := by
  rw [List.all_eq_true, List.eq_replicate_iff]
  exact ⟨fun h => ⟨rfl, h⟩, fun h => h.2⟩
theorem fillB_val {s : List Bool} {d : Nat} (hl : s.length = d) (hd : d < 8) : fillB s = decide ((valB s : Int) = ((2 ^ d - 1 : Nat) : Int)) := by
  unfold fillB
  rw [decide_eq_true (by omega), Bool.true_and, Bool.eq_iff_iff, all_id, decide_eq_true_iff, hl]
  have hp := Nat.two_pow_pos d
  constructor
  · intro h
    have := valB_bitsN d (2 ^ d - 1) (by omega)
    rw [bitsN_ones, ← h] at this
    rw [this]
  · intro h
    have h2 : valB s = 2 ^ d - 1 := by omega
    have := bitsN_valB s
    rw [h2, hl, bitsN_ones] at this
    exact this.symm
theorem fillB_long {s : List Bool} (hl : 8 ≤ s.length) : fillB s = false := by
  unfold fillB; rw [decide_eq_false (by omega)]; rfl
set_option maxRecDepth 100000 in
set_option maxHeartbeats 4000000 in
theorem onlyFill_any (A : Option Addr) (c G g : Nat) (bs : List Int) (m1 m2 : Value) (at_ : Nat) (w : World) (h : Rd A c G g bs m1 m2 at_ w) (hby : Bytes bs) :
    Calls Try.prog 42 #[.pointer (some ⟨g, 0, none⟩)] w fun e w' => e = .returned (.bool (fillB ((unpack bs).drop at_))) ∧ w.grownBy w' (some g) := by
  obtain ⟨F, hF⟩ : ∃ F, F = fillB ((unpack bs).drop at_) := ⟨_, rfl⟩
  rw [← hF]
  have HF := veil hF
  have hgl := h.blk.lt
  have hle := h.le
  have hfew := h.few
  have hlen : ((unpack bs).drop at_).length = 8 * bs.length - at_ := by rw [List.length_drop, unpack_length]
  have c0 := h.blk.cell (i := 0) (v := .slice A bs.length c) rfl
  have c1 := h.blk.cell (i := 1) (v := .int .i64 (at_ : Int)) rfl
  obtain ⟨d, hd⟩ : ∃ d : Nat, 8 * bs.length = at_ + d := ⟨8 * bs.length - at_, by omega⟩
  have HT := veil (fun W (hr : Rd A c G g bs m1 m2 at_ W) (hd : d ≤ 24) => take_any A c G g bs m1 m2 at_ d W hr hd hby)
  have hsub : IntKind.i64.wrap (IntKind.i64.wrap (8 * (bs.length : Int)) - (at_ : Int)) = (d : Int) := by
    have e : IntKind.i64.wrap (8 * (bs.length : Int)) = 8 * (bs.length : Int) := by rw [IntKind.wrap_i64]; omega
    rw [e, IntKind.wrap_i64]; omega
  have hsub2 : IntKind.i64.wrap (8 * (bs.length : Int) - (at_ : Int)) = (d : Int) := by rw [IntKind.wrap_i64]; omega
  have HR := veil h
  have Hd := veil hd
  have Hlen := veil hlen
  clear h hF hlen
  go_enter Try.func42, Try.ntmps42
  go_wp2_with fail
  go_quiet (fail)
  by_cases hd8 : d < 8
  · have hd8z : ¬ (8 : Int) ≤ (d : Int) := by omega
    have HTd := veil (HT.out (w.drewN nq) (HR.out.below ((Below.refl w.heap.size w).drewN nq) hgl) (by omega))
    have hg0 : w.grownBy (w.drewN nq) (some g) := grown_below (World.grownBy.refl w _) ((Below.refl w.heap.size w).drewN nq) (Nat.le_refl _)
    go_wp2_with fail
    refine HTd.out.mono ?_
    rintro e w2 ⟨hok, _⟩
    obtain ⟨rfl, hR2, hg2⟩ := hok (by omega)
    have HG := veil (hg0.trans hg2)
    have hld : ((unpack bs).drop at_).length = d := by rw [Hlen.out]; omega
    rw [List.take_of_length_le (by omega)]
    have hFX := fillB_val hld hd8
    obtain ⟨X, hX⟩ : ∃ X : Nat, X = valB ((unpack bs).drop at_) := ⟨_, rfl⟩
    rw [← hX] at hFX ⊢
    rw [← HF.out] at hFX
    have HFX := veil hFX
    have hX8 : X < 256 := by
      have := valB_lt ((unpack bs).drop at_)
      rw [hld, ← hX] at this
      have : 2 ^ d ≤ 2 ^ 8 := Nat.pow_le_pow_right (by omega) (by omega)
      omega
    clear hok hR2 hg2 hg0 HTd HT hFX hX hld hsub hsub2 hle hd8z c0 c1
    obtain rfl | rfl | rfl | rfl | rfl | rfl | rfl | rfl : d = 0 ∨ d = 1 ∨ d = 2 ∨ d = 3 ∨ d = 4 ∨ d = 5 ∨ d = 6 ∨ d = 7 := by omega
    · obtain ⟨b, hb⟩ : ∃ b : Bool, b = decide ((X : Int) = ((2 ^ 0 - 1 : Nat) : Int)) := ⟨_, rfl⟩
      have hbv : ((X : Int) == 0) = b := by rw [hb]; rfl
      rw [← hb] at HFX
      clear hb
      go_wp2_with fail
      all_goals (go_ret; exact ⟨by first | (rw [HFX.out]; done) | (rw [HFX.out]; rfl) | (rw [HFX.out]; simp_all), HG.out⟩)
    · obtain ⟨b, hb⟩ : ∃ b : Bool, b = decide ((X : Int) = ((2 ^ 1 - 1 : Nat) : Int)) := ⟨_, rfl⟩
      have hbv : ((X : Int) == 1) = b := by rw [hb]; rfl
      rw [← hb] at HFX
      clear hb
      go_wp2_with fail
      all_goals (go_ret; exact ⟨by first | (rw [HFX.out]; done) | (rw [HFX.out]; rfl) | (rw [HFX.out]; simp_all), HG.out⟩)
    · obtain ⟨b, hb⟩ : ∃ b : Bool, b = decide ((X : Int) = ((2 ^ 2 - 1 : Nat) : Int)) := ⟨_, rfl⟩
      have hbv : ((X : Int) == 3) = b := by rw [hb]; rfl
      rw [← hb] at HFX
      clear hb
      go_wp2_with fail
      all_goals (go_ret; exact ⟨by first | (rw [HFX.out]; done) | (rw [HFX.out]; rfl) | (rw [HFX.out]; simp_all), HG.out⟩)
    · obtain ⟨b, hb⟩ : ∃ b : Bool, b = decide ((X : Int) = ((2 ^ 3 - 1 : Nat) : Int)) := ⟨_, rfl⟩
      have hbv : ((X : Int) == 7) = b := by rw [hb]; rfl
      rw [← hb] at HFX
      clear hb
      go_wp2_with fail
      all_goals (go_ret; exact ⟨by first | (rw [HFX.out]; done) | (rw [HFX.out]; rfl) | (rw [HFX.out]; simp_all), HG.out⟩)
    · obtain ⟨b, hb⟩ : ∃ b : Bool, b = decide ((X : Int) = ((2 ^ 4 - 1 : Nat) : Int)) := ⟨_, rfl⟩
      have hbv : ((X : Int) == 15) = b := by rw [hb]; rfl
      rw [← hb] at HFX
      clear hb
      go_wp2_with fail
      all_goals (go_ret; exact ⟨by first | (rw [HFX.out]; done) | (rw [HFX.out]; rfl) | (rw [HFX.out]; simp_all), HG.out⟩)
    · obtain ⟨b, hb⟩ : ∃ b : Bool, b = decide ((X : Int) = ((2 ^ 5 - 1 : Nat) : Int)) := ⟨_, rfl⟩
      have hbv : ((X : Int) == 31) = b := by rw [hb]; rfl
      rw [← hb] at HFX
      clear hb
      go_wp2_with fail
      all_goals (go_ret; exact ⟨by first | (rw [HFX.out]; done) | (rw [HFX.out]; rfl) | (rw [HFX.out]; simp_all), HG.out⟩)
    · obtain ⟨b, hb⟩ : ∃ b : Bool, b = decide ((X : Int) = ((2 ^ 6 - 1 : Nat) : Int)) := ⟨_, rfl⟩
      have hbv : ((X : Int) == 63) = b := by rw [hb]; rfl
      rw [← hb] at HFX
      clear hb
      go_wp2_with fail
      all_goals (go_ret; exact ⟨by first | (rw [HFX.out]; done) | (rw [HFX.out]; rfl) | (rw [HFX.out]; simp_all), HG.out⟩)
    · obtain ⟨b, hb⟩ : ∃ b : Bool, b = decide ((X : Int) = ((2 ^ 7 - 1 : Nat) : Int)) := ⟨_, rfl⟩
      have hbv : ((X : Int) == 127) = b := by rw [hb]; rfl
      rw [← hb] at HFX
      clear hb
      go_wp2_with fail
      all_goals (go_ret; exact ⟨by first | (rw [HFX.out]; done) | (rw [HFX.out]; rfl) | (rw [HFX.out]; simp_all), HG.out⟩)
  · have hd8z : (8 : Int) ≤ (d : Int) := by omega
    have hFf : F = false := by rw [HF.out]; exact fillB_long (by rw [Hlen.out]; omega)
    subst hFf
    have HG : Hid (w.grownBy (w.drewN nq) (some g)) := grown_below (World.grownBy.refl w _) ((Below.refl w.heap.size w).drewN nq) (Nat.le_refl _)
    go_wp2_with fail
    go_ret
    exact ⟨rfl, HG.out⟩
end Go.Proofs.Ytbboakdfnjjddaa

/- Blocks out of bits, in numbers: what is read lies within its bounds; a reading under way. -/
namespace Go.Proofs.Ytbboakdfnjjddaa
set_option linter.unusedVariables false
set_option linter.unusedSimpArgs false
set_option maxRecDepth 100000

section
variable {σ : Type} {step : Bool → σ → Int ⊕ ((Int × Int × Int) × σ)}
theorem gR_in (hne : ∀ b s e, step b s = .inl e → e ≠ 0) : ∀ (k : Nat) (s : σ), (gR step k s).1 = 0 → (gR step k s).2.1.length = k ∧ (∀ z ∈ (gR step k s).2.1, -2047 ≤ z ∧ z ≤ 2047) ∧ ∃ s', (gR step k s).2.2.2 = some s' := by
  intro k
  induction k using Nat.strongRecOn with
  | _ k ih =>
    intro s h
    cases k with
    | zero => rw [gR]; exact ⟨rfl, by simp, s, rfl⟩
    | succ k =>
      rw [gR] at h ⊢
      cases hst : step false s with
      | inl e => rw [hst] at h; exact absurd h (hne _ _ _ hst)
      | inr q =>
        obtain ⟨t, s2⟩ := q
        rw [hst] at h
        simp only [] at h ⊢
        by_cases h1 : okT t = true
        · rw [if_pos h1] at h ⊢
          by_cases h2 : t.1 = 0
          · rw [if_pos h2]
            exact ⟨by simp, fun z hz => by rw [(List.mem_replicate.1 hz).2]; omega, s2, rfl⟩
          · rw [if_neg h2] at h ⊢
            by_cases h3 : k + 1 < farT t
            · rw [if_pos h3] at h; simp at h
            · rw [if_neg h3] at h ⊢
              have hp : 0 < farT t := by unfold farT; omega
              by_cases h4 : (gR step (k + 1 - farT t) s2).1 = 0
              · obtain ⟨g1, g2, s', g3⟩ := ih (k + 1 - farT t) (by omega) s2 h4
                rw [if_pos h4]
                refine ⟨by simp only [List.length_append, List.length_replicate, List.length_cons, g1]; omega, fun z hz => ?_, s', g3⟩
                rcases List.mem_append.1 hz with hz | hz
                · rw [(List.mem_replicate.1 hz).2]; omega
                · rcases List.mem_cons.1 hz with rfl | hz
                  · exact okQ_num (okT_okQ h1)
                  · exact g2 z hz
              · rw [if_neg h4] at h; exact absurd h h4
        · rw [if_neg h1] at h; simp at h
theorem gB_in (hne : ∀ b s e, step b s = .inl e → e ≠ 0) {before : Int} {s : σ} (h : (gB step before s).1 = 0) : (gB step before s).2.1.length = 64 ∧ (∀ z ∈ (gB step before s).2.1, -2047 ≤ z ∧ z ≤ 2047) ∧ (∃ s', (gB step before s).2.2.2 = some s') ∧ toksZ before (gB step before s).2.1 = (gB step before s).2.2.1 := by
  cases hst : step true s with
  | inl e => rw [gB_none hst] at h; exact absurd h (hne _ _ _ hst)
  | inr q =>
    obtain ⟨t, s2⟩ := q
    by_cases hf : firstT before t
    · rw [gB_go hst hf] at h ⊢
      by_cases h4 : (gR step 63 s2).1 = 0
      · obtain ⟨g1, g2, s', g3⟩ := gR_in hne 63 s2 h4
        unfold joinG at h ⊢
        rw [if_pos h4] at h ⊢
        unfold finG at h ⊢
        rw [if_pos rfl] at h ⊢
        by_cases h5 : toksZ before ([before + numT t] ++ (gR step 63 s2).2.1) = [t] ++ (gR step 63 s2).2.2.1
        · rw [if_pos h5]
          refine ⟨by simp [g1], fun z hz => ?_, ⟨s', g3⟩, h5⟩
          rcases List.mem_append.1 hz with hz | hz
          · rw [List.mem_singleton.1 hz]; exact hf.2.2
          · exact g2 z hz
        · rw [if_neg h5] at h; simp at h
      · unfold joinG at h
        rw [if_neg h4] at h
        unfold finG at h
        rw [if_neg h4] at h
        exact absurd h h4
    · rw [gB_bad hst hf] at h; simp at h
theorem head_in {zs : List Int} (h1 : zs.length = 64) (h2 : ∀ z ∈ zs, -2047 ≤ z ∧ z ≤ 2047) : -2047 ≤ (fromL zs).headD 0 ∧ (fromL zs).headD 0 ≤ 2047 := by
  have hl := fromL_length zs
  match hf : fromL zs, hl with
  | z :: l, _ => exact h2 z (fromL_mem h1 (by rw [hf]; exact List.mem_cons_self))
theorem inB_from {zs : List Int} (h1 : zs.length = 64) (h2 : ∀ z ∈ zs, -2047 ≤ z ∧ z ≤ 2047) : inB (-2047) 2047 (fromL zs) = true := inB_mem.2 fun z hz => h2 z (fromL_mem h1 hz)
end
/-- Blocks read so far, and what is still to read. -/
def joinS (acc : List (List Int)) (q : Int × List (List Int) × List Bool) : Int × List (List Int) × List Bool := if q.1 = 0 then (0, acc ++ q.2.1, q.2.2) else (q.1, [], [])
theorem joinS_nil_eq {fw rw_ : List (Int × Nat × Nat)} : ∀ (n : Nat) (before : Int) (b : List Bool), joinS [] (decS fw rw_ n before b) = decS fw rw_ n before b
  | 0, before, b => rfl
  | n + 1, before, b => by
    rw [decS]
    by_cases h : (gB (stepS fw rw_) before b).1 = 0
    · rw [if_pos h]
      simp only []
      by_cases h2 : (decS fw rw_ n ((fromL (gB (stepS fw rw_) before b).2.1).headD 0) ((gB (stepS fw rw_) before b).2.2.2.getD [])).1 = 0
      · rw [if_pos h2]; rfl
      · rw [if_neg h2]; unfold joinS; rw [if_neg h2]
    · rw [if_neg h]; unfold joinS; rw [if_neg h]
theorem joinS_joinS (a b : List (List Int)) (q : Int × List (List Int) × List Bool) : joinS a (joinS b q) = joinS (a ++ b) q := by
  unfold joinS
  by_cases h : q.1 = 0
  · simp [h]
  · simp [h]
theorem decS_err {fw rw_ : List (Int × Nat × Nat)} {before : Int} {b : List Bool} (h : (gB (stepS fw rw_) before b).1 ≠ 0) (n : Nat) : decS fw rw_ (n + 1) before b = ((gB (stepS fw rw_) before b).1, [], []) := by
  rw [decS, if_neg h]
theorem decS_ok {fw rw_ : List (Int × Nat × Nat)} {before : Int} {b s' : List Bool} (h : (gB (stepS fw rw_) before b).1 = 0) (hs : (gB (stepS fw rw_) before b).2.2.2 = some s') (n : Nat) : decS fw rw_ (n + 1) before b = joinS [outBk (gB (stepS fw rw_) before b)] (decS fw rw_ n ((outBk (gB (stepS fw rw_) before b)).headD 0) s') := by
  rw [decS, if_pos h, hs]
  unfold outBk joinS
  rw [if_pos h]
  rfl
/-- Where a reading of n blocks stands. -/
def DS (fw rw_ : List (Int × Nat × Nat)) (n : Nat) (s0 : List Bool) (k : Nat) (acc : List (List Int)) (before : Int) (s : List Bool) : Prop :=
  acc.length = k ∧ (-2047 ≤ before ∧ before ≤ 2047) ∧ (∀ r ∈ acc, r.length = 64) ∧ decS fw rw_ n 0 s0 = joinS acc (decS fw rw_ (n - k) before s)
theorem DS.start (fw rw_ : List (Int × Nat × Nat)) (n : Nat) (s0 : List Bool) : DS fw rw_ n s0 0 [] 0 s0 := ⟨rfl, by omega, by simp, by rw [joinS_nil_eq]; rfl⟩
section
variable {fw rw_ : List (Int × Nat × Nat)} {n k : Nat} {s0 s s' : List Bool} {acc : List (List Int)} {before : Int}
theorem DS.err (h : DS fw rw_ n s0 k acc before s) (hk : k < n) (he : (gB (stepS fw rw_) before s).1 ≠ 0) : decS fw rw_ n 0 s0 = ((gB (stepS fw rw_) before s).1, [], []) := by
  rw [h.2.2.2, show n - k = (n - (k + 1)) + 1 by omega, decS_err he]
  unfold joinS; rw [if_neg he]
theorem DS.next (h : DS fw rw_ n s0 k acc before s) (hk : k < n) (he : (gB (stepS fw rw_) before s).1 = 0) (hs : (gB (stepS fw rw_) before s).2.2.2 = some s') :
    DS fw rw_ n s0 (k + 1) (acc ++ [outBk (gB (stepS fw rw_) before s)]) ((outBk (gB (stepS fw rw_) before s)).headD 0) s' := by
  obtain ⟨g1, g2, _, _⟩ := gB_in (fun _ _ _ h => stepS_ne h) he
  have e : outBk (gB (stepS fw rw_) before s) = fromL (gB (stepS fw rw_) before s).2.1 := if_pos he
  refine ⟨by simp [h.1], by rw [e]; exact head_in g1 g2, fun r hr => ?_, ?_⟩
  · rcases List.mem_append.1 hr with hr | hr
    · exact h.2.2.1 r hr
    · rw [List.mem_singleton.1 hr, e]; exact fromL_length _
  · rw [h.2.2.2, show n - k = (n - (k + 1)) + 1 by omega, decS_ok he hs, joinS_joinS]
theorem DS.done (h : DS fw rw_ n s0 n acc before s) : decS fw rw_ n 0 s0 = (0, acc, s) := by
  rw [h.2.2.2, Nat.sub_self, decS]; unfold joinS; simp
end
theorem outBk_length {σ : Type} {step : Bool → σ → Int ⊕ ((Int × Int × Int) × σ)} (before : Int) (s : σ) : (outBk (gB step before s)).length = 64 := by
  unfold outBk; split
  · exact fromL_length _
  · exact zero64_length
/-- What Decode answers. -/
def segD (cs syms cs2 syms2 bs : List Int) (n : Nat) : Int × List (List Int) × List Bool := decS (outWords cs syms) (outWords cs2 syms2) n 0 (unpack (plainOut bs))
def eDec (cs syms cs2 syms2 bs : List Int) (n : Int) : Int :=
  if eTs cs syms cs2 syms2 ≠ 0 then eTs cs syms cs2 syms2 else if n < 0 ∨ 400 < n then 1 else if plainErr bs ≠ 0 then plainErr bs
  else if (segD cs syms cs2 syms2 bs n.toNat).1 ≠ 0 then (segD cs syms cs2 syms2 bs n.toNat).1 else if fillB (segD cs syms cs2 syms2 bs n.toNat).2.2 = true then 0 else 4
def oDec (cs syms cs2 syms2 bs : List Int) (n : Int) : List (List Int) := if eDec cs syms cs2 syms2 bs n = 0 then (segD cs syms cs2 syms2 bs n.toNat).2.1 else []
theorem oDec_err {cs syms cs2 syms2 bs : List Int} {n : Int} (h : eDec cs syms cs2 syms2 bs n ≠ 0) : oDec cs syms cs2 syms2 bs n = [] := if_neg h
end Go.Proofs.Ytbboakdfnjjddaa

/- Rows of integers of one length, one behind another in memory: blocks in a slice. No program is named here. -/
namespace Go.Proofs.Ytbboakdfnjjddaa
open Go.RowKit
set_option linter.unusedVariables false
set_option linter.unusedSimpArgs false
set_option maxRecDepth 100000

/-- Rows of integers, one behind another. -/
def rowsC (L : List (List Int)) : List Value := L.flatMap (ints .i64)
theorem rowsC_length {n : Nat} : ∀ {L : List (List Int)}, (∀ r ∈ L, r.length = n) → (rowsC L).length = L.length * n
  | [], _ => by simp [rowsC]
  | r :: L, h => by
    have h1 := rowsC_length (L := L) fun x hx => h x (List.mem_cons_of_mem _ hx)
    have h2 := h r List.mem_cons_self
    simp only [rowsC, List.flatMap_cons, List.length_append, ints_length, List.length_cons] at h1 ⊢
    rw [h1, h2, Nat.add_mul]; omega
theorem rowsC_at {n : Nat} : ∀ {L : List (List Int)}, (∀ r ∈ L, r.length = n) → ∀ {i j : Nat} {r : List Int}, L[i]? = some r → j < n → (rowsC L)[i * n + j]? = (ints .i64 r)[j]?
  | [], _, i, j, r, h, _ => by simp at h
  | s :: L, hl, 0, j, r, h, hj => by
    simp at h; subst h
    have := hl s List.mem_cons_self
    rw [rowsC, List.flatMap_cons, Nat.zero_mul, Nat.zero_add, List.getElem?_append_left (by rw [ints_length]; omega)]
  | s :: L, hl, i + 1, j, r, h, hj => by
    rw [List.getElem?_cons_succ] at h
    have h2 := hl s List.mem_cons_self
    have ih := rowsC_at (L := L) (fun x hx => hl x (List.mem_cons_of_mem _ hx)) h hj
    rw [rowsC, List.flatMap_cons, List.getElem?_append_right (by rw [ints_length, h2, Nat.add_mul]; omega), ints_length, h2, show (i + 1) * n + j - n = i * n + j by rw [Nat.add_mul]; omega]
    exact ih
/-- One row of a slice that is seen. -/
theorem Seen.row {w : World} {G n : Nat} {A : Option Addr} {L : List (List Int)} (h : Seen w G A (rowsC L)) (hl : ∀ r ∈ L, r.length = n) (hp : 0 < n) {k : Nat} (hk : k < L.length) :
    ∃ g o r, A = some ⟨g, o, none⟩ ∧ g < G ∧ L[k]? = some r ∧ r.length = n ∧ w.rangeAt g (o + k * n) (ints .i64 r) := by
  obtain ⟨r, hr⟩ := some_at hk
  have hrl := hl r (List.mem_of_getElem? hr)
  have hlt : 0 < (rowsC L).length := by rw [rowsC_length hl]; exact Nat.mul_pos (by omega) hp
  obtain ⟨g, o, e, hg, hc⟩ := h.at hlt
  refine ⟨g, o, r, e, hg, hr, hrl, fun j v hv => ?_⟩
  have hj : j < n := by have := (List.getElem?_eq_some_iff.1 hv).1; rw [ints_length] at this; omega
  have h2 := rowsC_at hl hr hj
  rw [hv] at h2
  have := hc _ _ h2
  rw [Nat.add_assoc]; exact this
end Go.Proofs.Ytbboakdfnjjddaa

/- Blocks in a row: made, built, appended. -/
namespace Go.Proofs.Ytbboakdfnjjddaa
open Go.RowKit
set_option linter.unusedVariables false
set_option linter.unusedSimpArgs false
set_option maxRecDepth 100000

theorem info_blk3 : (Try.prog.info? 47).map (fun i => (i.zero, i.size, i.bytes)) = some (some (.agg zeroB.toArray), 64, 512) := by kernel_rfl
theorem elem_blk : ElemOf Try.prog 22 47 64 512 := .mk' (z := .agg zeroB.toArray) Try.underlying22 (by kernel_rfl) rfl (by omega)
theorem run_make_blocks (n : Nat) (h : n ≤ 1000000) (u : World) : ∃ cur, (Instr.makeSlice 22 (.int .i64 0) (.int .i64 (n : Int))).run Try.prog u =
    .ok (.slice (some ⟨u.heap.size, 0, none⟩) 0 n) (u.alloc (.cells cur 47)) ∧ cur.size = n * 64 := by
  obtain ⟨i0, hi, hz0, hz1, hz2⟩ := info_parts info_blk3
  have h := run_make (P := Try.prog) u 22 47 i0 (.agg zeroB.toArray) Try.underlying22 hi hz0 .i64 .i64 0 n (by omega) (by omega) (by rw [hz2]; omega) (by omega)
  exact ⟨_, h, by simp [madeCells, hz1, Value.cells]⟩
abbrev blkRow (v : Value) (L : List (List Int)) : Row := ⟨47, 64, v, L.length, rowsC L⟩
theorem rowsC_append (a b : List (List Int)) : rowsC (a ++ b) = rowsC a ++ rowsC b := by simp [rowsC]
theorem rowsC_one (r : List Int) : rowsC [r] = ints .i64 r := by simp [rowsC]
theorem blkRow_append (v : Value) (l m : List (List Int)) : (⟨47, 64, v, l.length + m.length, rowsC l ++ rowsC m⟩ : Row) = blkRow v (l ++ m) := by simp [blkRow, rowsC_append]
/-- In a walk: append of one block just laid onto the first of the rows. -/
theorem wpList_ownB {ops : Array Oper} {rest : List Oper} {o : Oper} {a : Act} {Q : Exit → Act → World → Prop} (w0 : World) (hgd : Region.wanted o (yielded ops a.tmps) = true) (s x : Operand)
    (ho : o.op = .call { callee := .builtin .append, args := #[s, x], argTypes := #[22, 22] })
    (B : Nat) (v : Value) (l : List (List Int)) (rs : List Row) (hs : a.eval s = v) (HO : Owns B (blkRow v l :: rs) w0) (r : List Int) (ys : List Value) (hys : ys = ints .i64 r) (hr : r.length = 64) (hx : a.eval x = .slice (some ⟨w0.heap.size, 0, none⟩) 1 1)
    (h63 : l.length + 1 ≤ 1000000)
    (h : ∀ v' w', Owns B (blkRow v' (l ++ [r]) :: rs) w' → (w0.alloc (.cells ys.toArray 47)).grownBy w' v.ownBlock → Below B w0 w' → w0.heap.size < w'.heap.size → wpList Try.prog ops Q rest (a.put o.dst v') w') : wpList Try.prog ops Q (o :: rest) a (w0.alloc (.cells ys.toArray 47)) := by
  subst hys
  have e := rowsC_one r
  refine wpList_step fun K hK => ?_
  rw [if_pos hgd]
  refine wp_ownV _ s x _ ho B 47 64 512 elem_blk v l.length (rowsC l) rs hs (HO.alloc _) (w0.heap.size + 1) _ 1 1 (rowsC [r]) hx (by rw [e]; exact Seen.new w0 (ints .i64 r) _ _ (Nat.lt_succ_self _)) (by rw [e, ints_length, hr]) (by rw [e]; exact ints_one) (by unfold maxLen; omega) (by omega) ?_
  intro v' w' h2 hg h3
  have := h3.size
  refine hK _ _ (h v' w' ?_ hg (((Below.refl _ _).alloc HO.base _).trans h3) (by simp at this; omega))
  rw [← blkRow_append]
  exact h2
theorem fill_blk (ys : List Value) (hl : ys.length = 64) (base : Array Value) (hb : base.size = 64) : Instr.fill (fun i => some (i * 64, 64)) base [(0, .agg ys.toArray)] = some ys.toArray := by
  obtain ⟨r, h1, h2, h3⟩ := Great.fill_dense (s := 64) (by omega) [.agg ys.toArray] 0 base (by intro v hv; rw [List.mem_singleton.1 hv]; simpa [Value.cells] using hl) (by rw [hb]; simp)
  have e : (([Value.agg ys.toArray].zipIdx 0).map fun x => (x.2, x.1)) = [(0, .agg ys.toArray)] := rfl
  rw [e] at h1
  rw [h1]
  congr 1
  apply Array.ext_getElem?
  intro k
  rw [h3 k]
  by_cases hk : k < 64
  · rw [if_pos (by simp; omega)]
    simp [Nat.div_eq_of_lt hk, Nat.mod_eq_of_lt hk, Value.cells]
  · rw [if_neg (by simp; omega), Array.getElem?_eq_none (by omega), Array.getElem?_eq_none (by simp; omega)]
/-- In a walk: a slice of one block. -/
theorem wpList_buildBlk {ops : Array Oper} {rest : List Oper} {o : Oper} {a : Act} {w : World} {Q : Exit → Act → World → Prop} (hg : o.guard = none) (x : Operand) (ho : o.op = .buildSlice 22 1 #[(0, x)]) (ys : List Value) (hx : a.eval x = .agg ys.toArray) (hl : ys.length = 64)
    (h : wpList Try.prog ops Q rest (a.put o.dst (.slice (some ⟨w.heap.size, 0, none⟩) 1 1)) (w.alloc (.cells ys.toArray 47))) : wpList Try.prog ops Q (o :: rest) a w := by
  obtain ⟨i0, hi, hz0, hz1, hz2⟩ := info_parts info_blk3
  refine wpList_buildSlice hg 22 47 1 #[(0, x)] ho ys.toArray i0 (.agg zeroB.toArray) Try.underlying22 hi hz0 (by rw [hz1]; omega) (by rw [hz1]; omega) ?_ h
  have e : (#[(0, x)].map fun (i, x) => (i, a.eval x)).toList = [(0, .agg ys.toArray)] := by simp [hx]
  rw [e, hz1]
  exact fill_blk ys hl _ (by simp)
end Go.Proofs.Ytbboakdfnjjddaa

/- table.Codewords: its contract. -/
namespace Go.Proofs.Ytbboakdfnjjddaa
open Go.RowKit
set_option linter.unusedVariables false
set_option linter.unusedSimpArgs false
set_option maxRecDepth 100000

set_option maxRecDepth 100000 in
set_option maxHeartbeats 2000000 in
theorem codewords_any (cs syms : List Int) (A : Option Addr) (c G : Nat) (w : World) (hcs : cs.length = 16) (hn : syms.length ≤ maxLen) (hb : ∀ x ∈ cs, -9223372036854775808 ≤ x ∧ x ≤ 9223372036854775807) (hs : Seen w G A (ints .i64 syms)) (hG : G ≤ w.heap.size) :
    Calls Try.prog 28 #[tabV cs A syms.length c] w fun e w' => ∃ v, e = .returned (.tuple #[v, .int .i64 (checkErr cs syms)]) ∧ (checkErr cs syms = 0 → ∃ b, v = .map (some b) ∧ w.heap.size ≤ b ∧ MapF w' b syms.length (symF (outWords cs syms)) (symS (outWords cs syms))) ∧ (checkErr cs syms ≠ 0 → v = .map none) ∧ Below w.heap.size w w' := by
  have hlen17 : (tabCells cs A syms.length c).length = 17 := tabCells_length hcs
  have hck := fun w1 h1 hG1 => words_any cs syms A c G w1 hcs hn hb h1 hG1
  have Hcs := veil hcs
  clear hcs hb
  obtain ⟨ys, hys⟩ : ∃ ys, ys = tabCells cs A syms.length c := ⟨_, rfl⟩
  have Hr := veil (range_new w ys 34)
  unfold tabV at hck ⊢
  rw [← hys] at hlen17 hck ⊢
  clear hys
  have Hck := veil hck; clear hck
  have H17 := veil hlen17; clear hlen17
  go_enter Try.func28, Try.ntmps28
  go_wp2_with (first
    | (refine wpList_load_mid rfl 34 (.tmp 1) rfl w.heap.size 0 rfl ys _ Hr.out Try.underlying34 rfl (by rw [H17.out]; exact info_tab) ?_)
    | fail)
  refine (Hck.out _ (hs.alloc hG _) (by simp; omega)).mono ?_
  rintro e w1 ⟨v, rfl, HO, hb1⟩
  have hbel1 : Below w.heap.size w w1 := (below1 _ _).trans (hb1.mono (by simp))
  have hz1 := hb1.size
  simp at hz1
  clear Hr hb1
  by_cases h0 : checkErr cs syms = 0
  · rw [h0]
    have H0 := veil h0
    obtain ⟨l, hf, how, hll⟩ := fine_of h0
    have h256 := hf.good.le
    rw [how] at HO
    have hwl : (mkWords syms l).length = syms.length := by rw [mkWords_length _ _ (by omega), hll]
    have hwf : ∀ t ∈ mkWords syms l, WF t.1 := fun t ht => (fi_small hf Hcs.out ht).1
    obtain ⟨A5, c5, e5, hs5, _, _⟩ := HO.seen (List.mem_cons_self ..)
    simp only [wordRow] at e5 hs5
    rw [hwl] at e5
    subst e5
    have hby := bySymbol_any A5 c5 w1.heap.size (mkWords syms l) w1 hs5 (Nat.le_refl _) (by rw [hwl]; omega) hwf
    rw [hwl] at hby
    have Hby := veil hby
    have How := veil how
    clear hby hwf hwl hll hf how HO hs5 h0
    go_wp2_with fail
    refine Hby.out.mono ?_
    rintro e w2 ⟨b, rfl, hbb, HM, hb2⟩
    rw [← How.out] at HM
    have hbel2 := hbel1.trans (hb2.mono hbel1.size)
    have hbb2 : w.heap.size ≤ b := by omega
    clear Hby hb2
    go_wp2
    go_ret2
    exact ⟨_, ret_two rfl (by rw [H0.out]; rfl), fun _ => ⟨b, rfl, hbb2, HM⟩, fun h => absurd H0.out h, hbel2⟩
  · have hne : (checkErr cs syms != 0) = true := by simpa using h0
    have H0 := veil h0
    clear h0 Hck HO
    obtain ⟨E, hE⟩ : ∃ E, E = checkErr cs syms := ⟨_, rfl⟩
    rw [← hE] at hne ⊢
    have HE := veil hE
    clear hE
    go_wp2
    go_ret2
    exact ⟨_, ret_two rfl (by rw [← HE.out]; rfl), fun h => absurd h H0.out, fun _ => rfl, hbel1⟩
end Go.Proofs.Ytbboakdfnjjddaa

/- table.Symbols: its contract. -/
namespace Go.Proofs.Ytbboakdfnjjddaa
open Go.RowKit
set_option linter.unusedVariables false
set_option linter.unusedSimpArgs false
set_option maxRecDepth 100000

theorem make_mapC (n : Nat) (w : World) : (Instr.makeMap 87 (some (.int .i64 (n : Int)))).run Try.prog w = .ok (.map (some w.heap.size)) (w.alloc (.map #[] 0)) := by
  simp [Instr.makeMap, run_underlying Try.underlying87, asInt, newObj]
  rfl
set_option maxRecDepth 100000 in
set_option maxHeartbeats 4000000 in
theorem symbols_any (cs syms : List Int) (A : Option Addr) (c G : Nat) (w : World) (hcs : cs.length = 16) (hn : syms.length ≤ maxLen) (hb : ∀ x ∈ cs, -9223372036854775808 ≤ x ∧ x ≤ 9223372036854775807) (hs : Seen w G A (ints .i64 syms)) (hG : G ≤ w.heap.size) :
    Calls Try.prog 40 #[tabV cs A syms.length c] w fun e w' => ∃ v, e = .returned (.tuple #[v, .int .i64 (checkErr cs syms)]) ∧ (checkErr cs syms = 0 → ∃ b, v = .map (some b) ∧ w.heap.size ≤ b ∧ MapC w' b syms.length (codeF (outWords cs syms))) ∧ (checkErr cs syms ≠ 0 → v = .map none) ∧ Below w.heap.size w w' := by
  have hlen17 : (tabCells cs A syms.length c).length = 17 := tabCells_length hcs
  have hck := fun w1 h1 hG1 => words_any cs syms A c G w1 hcs hn hb h1 hG1
  have Hcs := veil hcs
  clear hcs hb
  obtain ⟨ys, hys⟩ : ∃ ys, ys = tabCells cs A syms.length c := ⟨_, rfl⟩
  have Hr := veil (range_new w ys 34)
  unfold tabV at hck ⊢
  rw [← hys] at hlen17 hck ⊢
  clear hys
  have Hck := veil hck; clear hck
  have H17 := veil hlen17; clear hlen17
  go_enter Try.func40, Try.ntmps40
  go_wp2_with (first
    | (refine wpList_load_mid rfl 34 (.tmp 1) rfl w.heap.size 0 rfl ys _ Hr.out Try.underlying34 rfl (by rw [H17.out]; exact info_tab) ?_)
    | fail)
  refine (Hck.out _ (hs.alloc hG _) (by simp; omega)).mono ?_
  rintro e w1 ⟨v, rfl, HO, hb1⟩
  have hbel1 : Below w.heap.size w w1 := (below1 _ _).trans (hb1.mono (by simp))
  have hz1 := hb1.size
  simp at hz1
  clear Hr hb1
  by_cases h0 : checkErr cs syms = 0
  · rw [h0]
    have H0 := veil h0
    obtain ⟨l, hf, how, hll⟩ := fine_of h0
    have h256 := hf.good.le
    rw [how] at HO
    have hwl : (mkWords syms l).length = syms.length := by rw [mkWords_length _ _ (by omega), hll]
    have hwf : ∀ t ∈ mkWords syms l, WF t.1 ∧ WF (t.2.1 : Int) ∧ WF (t.2.2 : Int) := fun t ht => fi_small hf Hcs.out ht
    obtain ⟨A5, c5, e5, hs5, _, _⟩ := HO.seen (List.mem_cons_self ..)
    simp only [wordRow] at e5 hs5
    obtain ⟨ws, hws⟩ : ∃ ws, ws = mkWords syms l := ⟨_, rfl⟩
    rw [← hws] at e5 hs5 hwl hwf how
    subst e5
    have How := veil how
    have Hwf := veil hwf
    have Hwl := veil hwl
    have hl256 : ws.length ≤ 256 := by omega
    have hmm := make_mapC ws.length w1
    clear hwf hll hf how HO h0 hwl hws
    go_wp2_with fail
    clear hmm
    go_loopg [8, 22] ws.length (fun gk p i wr => ∃ k : Nat, gk = ws.length - k ∧ k ≤ ws.length ∧ i = .int .i64 k ∧ MapC wr w1.heap.size k (codeF (ws.take k)) ∧ Below w1.heap.size w1 wr)
    case atStart => exact ⟨0, rfl, Nat.zero_le _, rfl, MapC.made w1, below1 _ _⟩
    case round =>
      obtain ⟨k, rfl, hk, rfl, HM, hbel⟩ := hrel
      by_cases hlt : k < ws.length
      · obtain ⟨g, o, s, n, cd, rfl, hg, hx, h1, h2, h3⟩ := hs5.triple hlt
        have hz := hbel.size
        rw [← hbel.cell (by simp; omega)] at h1 h2 h3
        have Hx := veil hx; clear hx
        go_wp2_with fail
        have hlen : k < maxLen := by unfold maxLen; omega
        have hwx : WF s ∧ WF (n : Int) ∧ WF (cd : Int) := Hwf.out _ (List.mem_of_getElem? Hx.out)
        have Hwx := veil hwx; clear hwx
        have hne : wr.heap.size ≠ w1.heap.size := by have := HM.lt; omega
        have HM2 := HM.below (below1 wr (Obj.cells #[Value.int IntKind.i64 s, Value.int IntKind.i64 (n : Int), Value.int IntKind.i64 (cd : Int)] 122)) HM.lt
        have hbel2 := hbel.trans ((below1 wr (Obj.cells #[Value.int IntKind.i64 s, Value.int IntKind.i64 (n : Int), Value.int IntKind.i64 (cd : Int)] 122)).mono hz)
        have c0 : (wr.alloc (Obj.cells #[Value.int IntKind.i64 s, Value.int IntKind.i64 (n : Int), Value.int IntKind.i64 (cd : Int)] 122)).cell? ⟨wr.heap.size, 0, none⟩ = some (.int .i64 s) := by simp
        have c1 : (wr.alloc (Obj.cells #[Value.int IntKind.i64 s, Value.int IntKind.i64 (n : Int), Value.int IntKind.i64 (cd : Int)] 122)).cell? ⟨wr.heap.size, 1, none⟩ = some (.int .i64 (n : Int)) := by simp
        have c2 : (wr.alloc (Obj.cells #[Value.int IntKind.i64 s, Value.int IntKind.i64 (n : Int), Value.int IntKind.i64 (cd : Int)] 122)).cell? ⟨wr.heap.size, 2, none⟩ = some (.int .i64 (cd : Int)) := by simp
        have hsz : wr.heap.size < (wr.alloc (Obj.cells #[Value.int IntKind.i64 s, Value.int IntKind.i64 (n : Int), Value.int IntKind.i64 (cd : Int)] 122)).heap.size := by simp
        generalize wr.alloc (Obj.cells #[Value.int IntKind.i64 s, Value.int IntKind.i64 (n : Int), Value.int IntKind.i64 (cd : Int)] 122) = W at *
        clear h1 h2 h3 HM hbel hs5
        generalize wr.heap.size = B at *
        go_region_held3 (fun w' => w'.cell? ⟨B, 0, none⟩ = some (.int .i64 s) ∧ w'.cell? ⟨B, 1, none⟩ = some (.int .i64 (n : Int)) ∧ w'.cell? ⟨B, 2, none⟩ = some (.int .i64 (cd : Int)))
          (first
            | go_keep
            | (go_split_ands
               refine ⟨?_, ?_, ?_⟩
               · (first | (refine (hb1.cell hsz).trans ?_; assumption) | (refine cell_far hgr2 hne ?_; assumption))
               · (first | (refine (hb1.cell hsz).trans ?_; assumption) | (refine cell_far hgr2 hne ?_; assumption))
               · (first | (refine (hb1.cell hsz).trans ?_; assumption) | (refine cell_far hgr2 hne ?_; assumption))))
          (first
            | (go_at_call 62; refine (field_any s n cd _).mono ?_; rintro e w3 ⟨rfl, hb1⟩; obtain ⟨w2, hup, HM3, hgr2⟩ := (HM2.below (below_of_drew hb1) HM2.lt).store hlen (p := ((n : Int), (cd : Int))) Hwx.out.2.1 Hwx.out.2.2 Hwx.out.1)
            | fail)
        have hbel3 : Below w1.heap.size w1 w2 := (hbel2.trans ((below_of_drew hb1).mono hbel2.size)).grown hgr2 (Nat.le_trans hbel2.size hb1.size) (fun j hj => by injection hj with hj; omega)
        have HM4 : MapC w2 w1.heap.size (k + 1) (codeF (ws.take (k + 1))) := by
          rw [take_snoc Hx.out, codeF_snoc]; exact HM3
        clear HM2 HM3 hup hbel2 hb1 hgr2
        go_wp2_with fail
        go_roundg (ws.length - (k + 1))
        case rel => exact ⟨k + 1, rfl, by omega, by go_num, HM4, hbel3⟩
        case measure => omega
      · obtain rfl : k = ws.length := by omega
        rw [List.take_length] at HM
        have hz := hbel.size
        have hwl := Hwl.out
        go_wp2
        go_ret2
        exact ⟨_, ret_two rfl (by rw [H0.out]; rfl), fun _ => ⟨_, rfl, by omega, by rw [← hwl, How.out]; exact HM⟩, fun h => absurd H0.out h, hbel1.trans (hbel.mono hbel1.size)⟩
  · have hne : (checkErr cs syms != 0) = true := by simpa using h0
    have H0 := veil h0
    clear h0 Hck HO
    obtain ⟨E, hE⟩ : ∃ E, E = checkErr cs syms := ⟨_, rfl⟩
    rw [← hE] at hne ⊢
    have HE := veil hE
    clear hE
    go_wp2
    go_ret2
    exact ⟨_, ret_two rfl (by rw [← HE.out]; rfl), fun h => absurd h H0.out, fun _ => rfl, hbel1⟩
end Go.Proofs.Ytbboakdfnjjddaa

/- seg.Decode: its contract. -/
namespace Go.Proofs.Ytbboakdfnjjddaa
open Go.RowKit
set_option linter.unusedVariables false
set_option linter.unusedSimpArgs false
set_option maxRecDepth 100000

theorem eTs_one {cs syms cs2 syms2 : List Int} (h : checkErr cs syms ≠ 0) : eTs cs syms cs2 syms2 = checkErr cs syms := if_neg h
theorem eTs_two {cs syms cs2 syms2 : List Int} (h : checkErr cs syms = 0) : eTs cs syms cs2 syms2 = checkErr cs2 syms2 := if_pos h
section
variable {cs syms cs2 syms2 bs : List Int} {n : Int}
theorem eDec_tab (h : eTs cs syms cs2 syms2 ≠ 0) : eDec cs syms cs2 syms2 bs n = eTs cs syms cs2 syms2 := if_pos h
theorem eDec_n (h : eTs cs syms cs2 syms2 = 0) (h2 : n < 0 ∨ 400 < n) : eDec cs syms cs2 syms2 bs n = 1 := by unfold eDec; rw [if_neg (by rw [h]; decide), if_pos h2]
theorem eDec_plain (h : eTs cs syms cs2 syms2 = 0) (h2 : ¬ (n < 0 ∨ 400 < n)) (h3 : plainErr bs ≠ 0) : eDec cs syms cs2 syms2 bs n = plainErr bs := by unfold eDec; rw [if_neg (by rw [h]; decide), if_neg h2, if_pos h3]
theorem eDec_dec (h : eTs cs syms cs2 syms2 = 0) (h2 : ¬ (n < 0 ∨ 400 < n)) (h3 : plainErr bs = 0) (h4 : (segD cs syms cs2 syms2 bs n.toNat).1 ≠ 0) : eDec cs syms cs2 syms2 bs n = (segD cs syms cs2 syms2 bs n.toNat).1 := by unfold eDec; rw [if_neg (by rw [h]; decide), if_neg h2, if_neg (by rw [h3]; decide), if_pos h4]
theorem eDec_fill (h : eTs cs syms cs2 syms2 = 0) (h2 : ¬ (n < 0 ∨ 400 < n)) (h3 : plainErr bs = 0) (h4 : (segD cs syms cs2 syms2 bs n.toNat).1 = 0) : eDec cs syms cs2 syms2 bs n = if fillB (segD cs syms cs2 syms2 bs n.toNat).2.2 = true then 0 else 4 := by unfold eDec; rw [if_neg (by rw [h]; decide), if_neg h2, if_neg (by rw [h3]; decide), if_neg (by rw [h4]; decide)]
end
theorem plainR_mem : ∀ (bs p : List Int), plainR bs = some p → ∀ x ∈ p, x ∈ bs
  | [], p, h, x, hx => by simp [plainR] at h; subst h; simp at hx
  | [y], p, h, x, hx => by
    by_cases hy : y = 255
    · subst hy; rw [plainR_end] at h; cases h
    · simp [plainR, hy] at h; subst h; exact hx
  | y :: z :: r, p, h, x, hx => by
    by_cases hy : y = 255
    · subst hy
      by_cases hz : z = 0
      · subst hz
        rw [plainR_lead] at h
        obtain ⟨q, hq, rfl⟩ := Option.map_eq_some_iff.1 h
        rcases List.mem_cons.1 hx with rfl | hx
        · simp
        · have := plainR_mem r q hq x hx; simp [this]
      · rw [plainR_bad hz] at h; cases h
    · rw [plainR_other hy] at h
      obtain ⟨q, hq, rfl⟩ := Option.map_eq_some_iff.1 h
      rcases List.mem_cons.1 hx with rfl | hx
      · simp
      · have := plainR_mem (z :: r) q hq x hx
        exact List.mem_cons_of_mem _ this
theorem plain_bytes {bs : List Int} (h : Bytes bs) : Bytes (plainOut bs) := by
  cases hp : plainR bs with
  | none => rw [(plain_none hp).1]; intro x hx; simp at hx
  | some p => rw [(plain_some hp).1]; exact fun x hx => h x (plainR_mem bs p hp x hx)
theorem plain_length (bs : List Int) : (plainOut bs).length ≤ bs.length := by
  cases hp : plainR bs with
  | none => rw [(plain_none hp).1]; simp
  | some p =>
    have := length_le_stuffB p
    rw [stuffB_plainR bs p hp] at this
    rw [(plain_some hp).1]; exact this
theorem words_pf {cs syms : List Int} (hcs : cs.length = 16) (h : checkErr cs syms = 0) : PF (outWords cs syms) ∧ ∀ t ∈ outWords cs syms, 0 ≤ t.1 ∧ t.1 ≤ 255 := by
  obtain ⟨l, hf, how, hll⟩ := fine_of h
  rw [how]
  exact ⟨hf.pf hcs, fun t ht => (hf.word hcs ht).1⟩
set_option maxRecDepth 100000 in
set_option maxHeartbeats 8000000 in
theorem segDecode_any (cs syms : List Int) (A : Option Addr) (c : Nat) (cs2 syms2 : List Int) (A2 : Option Addr) (c2 G : Nat) (bs : List Int) (A3 : Option Addr) (c3 : Nat) (n : Int) (w : World)
    (hcs : cs.length = 16) (hn : syms.length ≤ maxLen) (hb : ∀ x ∈ cs, -9223372036854775808 ≤ x ∧ x ≤ 9223372036854775807) (hs : Seen w G A (ints .i64 syms))
    (hcs2 : cs2.length = 16) (hn2 : syms2.length ≤ maxLen) (hb2 : ∀ x ∈ cs2, -9223372036854775808 ≤ x ∧ x ≤ 9223372036854775807) (hs2 : Seen w G A2 (ints .i64 syms2))
    (hs3 : Seen w G A3 (ints .u8 bs)) (hby : Bytes bs) (hl : bs.length ≤ 140737488355328) (hG : G ≤ w.heap.size) :
    Calls Try.prog 17 #[tabsV cs A syms.length c cs2 A2 syms2.length c2, .slice A3 bs.length c3, .int .i64 n] w fun e w' => ∃ v, e = .returned (.tuple #[v, .int .i64 (eDec cs syms cs2 syms2 bs n)]) ∧ Owns w.heap.size [blkRow v (oDec cs syms cs2 syms2 bs n)] w' ∧ Below w.heap.size w w' := by
  have h17 : (tabCells cs A syms.length c).length = 17 := tabCells_length hcs
  have h17b : (tabCells cs2 A2 syms2.length c2).length = 17 := tabCells_length hcs2
  have HC1 := veil (fun W h hG => symbols_any cs syms A c G W hcs hn hb h hG)
  have HC2 := veil (fun W h hG => symbols_any cs2 syms2 A2 c2 G W hcs2 hn2 hb2 h hG)
  have hb0 := below1 w (.cells (tabsCells cs A syms.length c cs2 A2 syms2.length c2).toArray 36)
  have hz0 : (w.alloc (.cells (tabsCells cs A syms.length c cs2 A2 syms2.length c2).toArray 36)).heap.size = w.heap.size + 1 := by simp
  have hr := range_new w (tabsCells cs A syms.length c cs2 A2 syms2.length c2) 36
  have hr1 := range_left hr
  have hr2 := range_right hr
  rw [h17] at hr2
  have HPl := veil (fun W h hG => plain_any A3 c3 G bs W h hG hl)
  have Hby := veil hby
  have Hcs := veil hcs
  have Hcs2 := veil hcs2
  obtain ⟨E, hE⟩ : ∃ E, E = eDec cs syms cs2 syms2 bs n := ⟨_, rfl⟩
  obtain ⟨O, hO⟩ : ∃ O, O = oDec cs syms cs2 syms2 bs n := ⟨_, rfl⟩
  rw [← hE, ← hO]
  have HOe : Hid (E ≠ 0 → O = []) := by show _ → _; intro h; rw [hO]; exact oDec_err (by rw [← hE]; exact h)
  have HE := veil hE
  have HO := veil hO
  have H17 := veil h17
  have H17b := veil h17b
  have Hl := veil hl
  clear hr h17 h17b hcs hcs2 hb hb2 hby hE hO hl
  unfold tabsV
  unfold tabV at HC1 HC2
  generalize tabsCells cs A syms.length c cs2 A2 syms2.length c2 = zs at *
  generalize tabCells cs A syms.length c = xs at *
  generalize tabCells cs2 A2 syms2.length c2 = ys at *
  go_enter Try.func17, Try.ntmps17
  go_wp2_with (first
    | (refine wpList_load_mid rfl 34 (.tmp 18) rfl w.heap.size 0 rfl xs _ hr1 Try.underlying34 rfl (by rw [H17.out]; exact info_tab) ?_)
    | fail)
  refine (HC1.out _ (hs.below hb0 hG) (by rw [hz0]; omega)).mono ?_
  rintro e w1 ⟨v1, rfl, hok1, hbad1, hb1⟩
  have hr2' := range_below hr2 hb1 (by rw [hz0]; omega)
  have hbw := hb0.trans (hb1.mono (by rw [hz0]; omega))
  have hz1 := hb1.size
  rw [hz0] at hz1
  clear hr1 hr2 hb0 HC1
  by_cases h0 : checkErr cs syms = 0
  · obtain ⟨b1, rfl, hb1l, HM1⟩ := hok1 h0
    rw [h0]
    rw [hz0] at hb1l
    have H0 := veil h0
    have HM1 := veil HM1
    have hb1z := HM1.out.lt
    clear hok1 hbad1 h0 hb1
    go_wp2_with (first
      | (refine wpList_load_mid rfl 34 (.tmp 27) rfl w.heap.size 17 rfl ys _ (by simpa using hr2') Try.underlying34 rfl (by rw [H17b.out]; exact info_tab) ?_)
      | fail)
    refine (HC2.out _ (hs2.below hbw hG) (by omega)).mono ?_
    rintro e w2 ⟨v2, rfl, hok2, hbad2, hb2⟩
    have hbw2 := hbw.trans (hb2.mono hbw.size)
    have hz2 := hb2.size
    have HM12 := HM1.out.below hb2 hb1z
    clear hr2' HC2 HM1
    by_cases h0b : checkErr cs2 syms2 = 0
    · obtain ⟨b2, rfl, hb2l, HM2⟩ := hok2 h0b
      rw [h0b]
      have hb2z := HM2.lt
      have HT0 : Hid (eTs cs syms cs2 syms2 = 0) := by show _ = _; rw [eTs_two H0.out]; exact h0b
      have H0b := veil h0b
      have HM1 := veil HM12
      have HM2 := veil HM2
      clear hok2 hbad2 h0b HM12 hb2
      by_cases hrg : n < 0 ∨ 400 < n
      · have hE1 := eDec_n (bs := bs) HT0.out hrg
        rw [← HE.out] at hE1
        have hO1 := HOe.out (by rw [hE1]; decide)
        have HE1 := veil hE1
        have HO1 := veil hO1
        clear hE1 hO1
        by_cases hn0 : n < 0
        · clear hrg
          go_wp2
          go_ret2
          exact ⟨_, ret_two rfl (by rw [HE1.out]; rfl), by rw [HO1.out]; exact (Owns.nil hbw2.size).fresh _ _, hbw2⟩
        · have hn1 : 400 < n := by omega
          clear hrg
          go_wp2
          go_ret2
          exact ⟨_, ret_two rfl (by rw [HE1.out]; rfl), by rw [HO1.out]; exact (Owns.nil hbw2.size).fresh _ _, hbw2⟩
      · have Hrg := veil hrg
        obtain ⟨N, hN, hN400⟩ : ∃ N : Nat, n = (N : Int) ∧ N ≤ 400 := ⟨n.toNat, by omega, by omega⟩
        subst hN
        have hg1 : ¬ (N : Int) < 0 := by omega
        have hg2 : ¬ (400 : Int) < (N : Int) := by omega
        clear hrg
        go_wp2_with fail
        refine (HPl.out _ (hs3.below hbw2 hG) (by omega)).mono ?_
        rintro e w3 ⟨v3, rfl, HO3, hb3⟩
        have hz3 := hb3.size
        have hbw3 := hbw2.trans (hb3.mono hbw2.size)
        have HM13 := HM1.out.below hb3 (by omega)
        have HM23 := HM2.out.below hb3 hb2z
        clear hg1 hg2 HM1 HM2
        by_cases hp : plainErr bs = 0
        · rw [hp]
          obtain ⟨P, hP, hPby, hPl⟩ : ∃ P, P = plainOut bs ∧ Bytes P ∧ P.length ≤ 140737488355328 := ⟨_, rfl, plain_bytes Hby.out, by
            have := plain_length bs
            have := Hl.out
            omega⟩
          rw [← hP] at HO3
          obtain ⟨Ap, cp, e3, hsp, hcp, hmp⟩ := HO3.seen (List.mem_cons_self ..)
          simp only [byteRow, intRow] at e3 hsp hcp
          subst e3
          obtain ⟨fw, hfw⟩ : ∃ fw, fw = outWords cs syms := ⟨_, rfl⟩
          obtain ⟨rw_, hrw⟩ : ∃ rw_, rw_ = outWords cs2 syms2 := ⟨_, rfl⟩
          obtain ⟨hpf1, hsm1⟩ : PF fw ∧ ∀ t ∈ fw, 0 ≤ t.1 ∧ t.1 ≤ 255 := by rw [hfw]; exact words_pf Hcs.out H0.out
          obtain ⟨hpf2, hsm2⟩ : PF rw_ ∧ ∀ t ∈ rw_, 0 ≤ t.1 ∧ t.1 ≤ 255 := by rw [hrw]; exact words_pf Hcs2.out H0b.out
          rw [← hfw] at HM13
          rw [← hrw] at HM23
          have hSD : segD cs syms cs2 syms2 bs N = decS fw rw_ N 0 (unpack P) := by unfold segD; rw [hfw, hrw, hP]
          have HED : Hid ((segD cs syms cs2 syms2 bs N).1 ≠ 0 → E = (segD cs syms cs2 syms2 bs N).1) := fun h => HE.out.trans (eDec_dec HT0.out Hrg.out hp (by rw [Int.toNat_natCast]; exact h))
          have HEF : Hid ((segD cs syms cs2 syms2 bs N).1 = 0 → E = if fillB (segD cs syms cs2 syms2 bs N).2.2 = true then 0 else 4) := fun h => HE.out.trans (by rw [eDec_fill HT0.out Hrg.out hp (by rw [Int.toNat_natCast]; exact h), Int.toNat_natCast])
          have HOO : Hid (E = 0 → O = (segD cs syms cs2 syms2 bs N).2.1) := fun h => HO.out.trans (by unfold oDec; rw [if_pos (by rw [← HE.out]; exact h), Int.toNat_natCast])
          rw [hSD] at HED HEF HOO
          have hbX := below1 w3 (.cells #[.slice Ap P.length cp, .int .i64 0, .map (some b1), .map (some b2)] 94)
          have hTR0 : TR Ap cp w3.heap.size w3.heap.size P b1 syms.length fw b2 syms2.length rw_ (w3.alloc (.cells #[.slice Ap P.length cp, .int .i64 0, .map (some b1), .map (some b2)] 94)) (unpack P) :=
            ⟨0, ⟨Blk.new w3 [.slice Ap P.length cp, .int .i64 0, .map (some b1), .map (some b2)] 94, hsp.below hbX (Nat.le_refl _), hcp, hmp, hPl, by omega, Nat.le_refl _⟩, HM13.below hbX (by omega), HM23.below hbX (by omega), by omega, by omega, rfl⟩
          have HBk := veil (fun (before : Int) W s (h : TR Ap cp w3.heap.size w3.heap.size P b1 syms.length fw b2 syms2.length rw_ W s) (hb : -2047 ≤ before ∧ before ≤ 2047) => segBlock_any Ap cp w3.heap.size w3.heap.size P b1 syms.length fw b2 syms2.length rw_ before W s h hPby hpf1 hsm1 hpf2 hsm2 hb)
          have HFl := veil (fun at_ W (h : Rd Ap cp w3.heap.size w3.heap.size P (.map (some b1)) (.map (some b2)) at_ W) => onlyFill_any Ap cp w3.heap.size w3.heap.size P _ _ at_ W h hPby)
          have HTR0 := veil hTR0
          have hbwX := hbw3.trans (hbX.mono hbw3.size)
          have hzX : (w3.alloc (.cells #[.slice Ap P.length cp, .int .i64 0, .map (some b1), .map (some b2)] 94)).heap.size = w3.heap.size + 1 := by simp
          obtain ⟨cur, hmk, hcur⟩ := run_make_blocks N (by omega) (w3.alloc (.cells #[.slice Ap P.length cp, .int .i64 0, .map (some b1), .map (some b2)] 94))
          obtain ⟨g, hg⟩ : ∃ g, g = w3.heap.size := ⟨_, rfl⟩
          have Hcur := veil hcur
          have HDS0 := veil (DS.start fw rw_ N (unpack P))
          have hgw : w.heap.size ≤ g := by rw [hg]; omega
          have hb1g : b1 < g := by omega
          have hb2g : b2 < g := by omega
          clear HO3 hsp hpf1 hpf2 hsm1 hsm2 hfw hrw HM13 HM23 hSD hP hPby hbX hTR0 hp HPl hs hs2 hs3 hb3 hbw hbw2 hbw3 hcur
          go_wp2_with fail
          clear hmk
          have hrow0 := (Owns.start (w3.alloc (.cells #[.slice Ap P.length cp, .int .i64 0, .map (some b1), .map (some b2)] 94))).made 47 64 cur N (by unfold maxLen; omega) Hcur.out
          rw [hzX] at hrow0
          have hbY := below1 (w3.alloc (.cells #[.slice Ap P.length cp, .int .i64 0, .map (some b1), .map (some b2)] 94)) (.cells cur 47)
          have hTRY := HTR0.out.belowB hbY (by rw [hzX]; omega)
          have hbwY := hbwX.trans (hbY.mono hbwX.size)
          rw [← hg] at HBk HFl hTRY hrow0 ⊢
          have Hg := veil hg
          clear hg
          go_loopg [13, 14, 15, 16, 58] N (fun gk v13 v14 v15 v16 iv wr => ∃ (k : Nat) (acc : List (List Int)) (before : Int) (s : List Bool), gk = N - k ∧ k ≤ N ∧ iv = .int .i64 (k : Int) ∧ v14 = .int .i64 before ∧ Hid (DS fw rw_ N (unpack P) k acc before s) ∧ Hid (TR Ap cp g g P b1 syms.length fw b2 syms2.length rw_ wr s) ∧ Owns (g + 1) [blkRow v13 acc] wr ∧ Below w.heap.size w wr)
          case atStart => exact ⟨0, [], 0, unpack P, rfl, Nat.zero_le _, rfl, rfl, HDS0, hTRY, hrow0, hbwY⟩
          case round =>
            obtain ⟨k, acc, before, s, rfl, hk, rfl, rfl, HDS, HTR, hO, hbw⟩ := hrel
            have hTz := HTR.out.lt
            clear HDS0 hTRY hrow0 hbwY hbY
            by_cases hlt : k < N
            · have hltz : (k : Int) < (N : Int) := by omega
              have HB := veil (HBk.out before wr s HTR.out HDS.out.2.1)
              go_wp2_with fail
              refine HB.out.mono ?_
              rintro e w4 ⟨rfl, hg4, hs4⟩
              have hosl := outBk_length (step := stepS fw rw_) before s
              obtain ⟨D, hD⟩ : ∃ D, D = gB (stepS fw rw_) before s := ⟨_, rfl⟩
              have HD := veil hD
              rw [← hD] at hs4 hosl ⊢
              obtain ⟨er, her⟩ : ∃ er, er = D.1 := ⟨_, rfl⟩
              obtain ⟨os, hos⟩ : ∃ os, os = outBk D := ⟨_, rfl⟩
              have Her := veil her
              have Hos := veil hos
              rw [← her, ← hos]
              rw [← hos] at hosl
              have Hosl : Hid ((ints .i64 os).length = 64) := by show _ = _; rw [ints_length, hosl]
              have hone := ints_one (k := .i64) (l := os)
              have hz4 := hg4.size
              have hO4 := hO.kept hg4 (by omega)
              have hbw4 := hbw.grown hg4 hbw.size (fun j hj => by injection hj with hj; omega)
              have hown := fun j hj => ((hO4.head).lt j hj).2
              have hr5 := range_new w4 (ints .i64 os) 47
              have hb5 := below1 w4 (.cells (ints .i64 os).toArray 47)
              have hO5 := hO4.alloc (.cells (ints .i64 os).toArray 47)
              have hbw5 := hbw4.trans (hb5.mono hbw4.size)
              obtain ⟨zs5, hys⟩ : ∃ zs5, zs5 = ints .i64 os := ⟨_, rfl⟩
              have Hys := veil hys
              have hz0' : zs5[0]? = some (.int .i64 (os.headD 0)) := by
                rw [hys]
                match os, hosl with
                | o :: os, _ => rfl
              unfold blkV
              rw [← hys] at hr5 hb5 hO5 hbw5 Hosl hone ⊢
              clear hD her hos hys HB hO hbw
              by_cases he : er = 0
              · have he' : (gB (stepS fw rw_) before s).1 = 0 := by rw [← HD.out, ← Her.out]; exact he
                obtain ⟨_, _, ⟨s', hs'⟩, _⟩ := gB_in (fun _ _ _ h => stepS_ne h) he'
                have hnext := HDS.out.next hlt he' hs'
                rw [← HD.out, ← Hos.out] at hnext
                rw [← HD.out] at hs'
                have hTR4 := hs4 s' hs'
                have hTR5 := hTR4.belowB hb5 (by omega)
                have Hnext := veil hnext
                have HTR5 := veil hTR5
                have hacc : acc.length + 1 ≤ 1000000 := by have := HDS.out.1; omega
                have Hacc := veil hacc
                subst he
                clear he' hs' hs4 hnext hTR4 hTR5 HDS HTR hacc
                go_upto_region 21 with (first
                  | (refine wpList_store_new w4 rfl 47 (.tmp 15) (.tmp 64) rfl zeroB.toArray zs5 rfl rfl (info_blkn Hosl.out) (by rw [Hosl.out]; rfl) hone ?_)
                  | (refine wpList_load_mid rfl 47 (.tmp 15) rfl w4.heap.size 0 rfl zs5 _ hr5 Try.underlying47 rfl (info_blkn Hosl.out) ?_)
                  | (refine wpList_buildBlk rfl (.tmp 70) rfl zs5 rfl Hosl.out ?_)
                  | (refine wpList_ownB (w4.alloc (.cells zs5.toArray 47)) rfl (.tmp 69) (.tmp 71) rfl (g + 1) u13 acc [] rfl hO5 os zs5 Hys.out hosl rfl Hacc.out ?_; intro v' w6 hO6 hg6 hb6 hs6)
                  | fail)
                have hc5 := hr5 0 _ hz0'
                have hne6 : some w4.heap.size ≠ u13.ownBlock := fun e => by have := hown _ e.symm; omega
                have hc6 := reg_far hg6 hne6 (i := 0) (u := .int .i64 (os.headD 0)) (by rw [World.cell?_of_block (Below.heap_alloc _ _ _ (by simp))]; simpa using hc5)
                have HTR6 := veil (HTR5.out.belowB hb6 (by omega))
                have hbw6 := hbw5.trans (hb6.mono (by omega))
                clear hc5 hg6 hb6 hO5 hbw5 hr5 hb5 HTR5 hO4 hbw4 hg4 hz0'
                go_wp2_with fail
                go_roundg (N - (k + 1))
                case rel => exact ⟨k + 1, acc ++ [os], os.headD 0, s', rfl, by omega, by go_num, by rw [List.headD_eq_head?_getD], Hnext, HTR6, hO6, hbw6⟩
                case measure => omega
              · have he' : (gB (stepS fw rw_) before s).1 ≠ 0 := by rw [← HD.out, ← Her.out]; exact he
                have hq := HDS.out.err hlt he'
                rw [← HD.out, ← Her.out] at hq
                have hE1 : E = er := by rw [HED.out (by rw [hq]; exact he), hq]
                have hO1 := HOe.out (by rw [hE1]; exact he)
                have HE1 := veil hE1
                have HO1 := veil hO1
                have hbe : (er != 0) = true := by simpa using he
                clear he he' hq hE1 hO1 hs4
                go_wp2_with (first
                  | (refine wpList_store_new w4 rfl 47 (.tmp 15) (.tmp 64) rfl zeroB.toArray zs5 rfl rfl (info_blkn Hosl.out) (by rw [Hosl.out]; rfl) hone ?_)
                  | fail)
                go_ret2
                exact ⟨_, ret_two rfl (by rw [HE1.out]; rfl), by rw [HO1.out]; exact (Owns.nil hbw5.size).fresh _ _, hbw5⟩
            · obtain rfl : k = N := by omega
              have hq := HDS.out.done
              obtain ⟨at_, hR, _, _, _, _, hsa⟩ := HTR.out
              have HF := veil (HFl.out at_ wr hR)
              rw [← hsa] at HF
              have hE1 : E = if fillB s = true then 0 else 4 := by rw [HEF.out (by rw [hq]), hq]
              have HQ := veil hq
              have Hgw := veil hgw
              clear hR hsa hq HTR
              go_wp2_with fail
              refine HF.out.mono ?_
              rintro e w4 ⟨rfl, hg4⟩
              have hO4 := hO.kept hg4 (by omega)
              have hbw4 := hbw.grown hg4 hbw.size (fun j hj => by injection hj with hj; omega)
              cases hfl : fillB s with
              | true =>
                rw [hfl, if_pos rfl] at hE1
                have hO1 := HOO.out hE1
                rw [HQ.out] at hO1
                have HE1 := veil hE1
                have HO1 := veil hO1
                clear hE1 hO1 hfl HF
                go_wp2_with fail
                go_ret2
                exact ⟨_, ret_two rfl (by rw [HE1.out]; rfl), by rw [HO1.out]; exact hO4.down (by omega), hbw4⟩
              | false =>
                rw [hfl, if_neg (by decide)] at hE1
                have hO1 := HOe.out (by rw [hE1]; decide)
                have HE1 := veil hE1
                have HO1 := veil hO1
                clear hE1 hO1 hfl HF hO4 hO
                go_wp2_with fail
                go_ret2
                exact ⟨_, ret_two rfl (by rw [HE1.out]; rfl), by rw [HO1.out]; exact (Owns.nil hbw4.size).fresh _ _, hbw4⟩
        · have hE1 := eDec_plain (bs := bs) HT0.out Hrg.out hp
          have hne : (plainErr bs != 0) = true := by simpa using hp
          rw [← HE.out] at hE1
          have hO1 := HOe.out (by rw [hE1]; exact hp)
          have HO1 := veil hO1
          have HE1 := veil hE1
          obtain ⟨er, her⟩ : ∃ er, er = plainErr bs := ⟨_, rfl⟩
          rw [← her] at hne HE1 ⊢
          clear hE1 hO1 HO3 hp her
          go_wp2
          go_ret2
          exact ⟨_, ret_two rfl (by rw [HE1.out]; rfl), by rw [HO1.out]; exact (Owns.nil hbw3.size).fresh _ _, hbw3⟩
    · have hE1 := eDec_tab (cs := cs) (syms := syms) (cs2 := cs2) (syms2 := syms2) (bs := bs) (n := n) (by rw [eTs_two H0.out]; exact h0b)
      rw [eTs_two H0.out, ← HE.out] at hE1
      have hO1 := HOe.out (by rw [hE1]; exact h0b)
      have hne : (checkErr cs2 syms2 != 0) = true := by simpa using h0b
      have HO1 := veil hO1
      have HE1 := veil hE1
      obtain ⟨er, her⟩ : ∃ er, er = checkErr cs2 syms2 := ⟨_, rfl⟩
      rw [← her] at hne HE1 ⊢
      clear hE1 hO1 h0b her hok2 hbad2
      go_wp2
      go_ret2
      exact ⟨_, ret_two rfl (by rw [HE1.out]; rfl), by rw [HO1.out]; exact (Owns.nil hbw2.size).fresh _ _, hbw2⟩
  · have hE1 := eDec_tab (cs := cs) (syms := syms) (cs2 := cs2) (syms2 := syms2) (bs := bs) (n := n) (by rw [eTs_one h0]; exact h0)
    rw [eTs_one h0, ← HE.out] at hE1
    have hO1 := HOe.out (by rw [hE1]; exact h0)
    have hne : (checkErr cs syms != 0) = true := by simpa using h0
    have HO1 := veil hO1
    have HE1 := veil hE1
    obtain ⟨er, her⟩ : ∃ er, er = checkErr cs syms := ⟨_, rfl⟩
    rw [← her] at hne HE1 ⊢
    clear hE1 hO1 h0 her hok1 hbad1
    go_wp2
    go_ret2
    exact ⟨_, ret_two rfl (by rw [HE1.out]; rfl), by rw [HO1.out]; exact (Owns.nil hbw.size).fresh _ _, hbw⟩
end Go.Proofs.Ytbboakdfnjjddaa

/- Blocks built and appended in a region driven by hand. -/
namespace Go.Proofs.Ytbboakdfnjjddaa
open Go.RowKit
set_option linter.unusedVariables false
set_option linter.unusedSimpArgs false
set_option maxRecDepth 100000

theorem step_buildBlk {ops : Array Oper} {o : Oper} {a : Act} {w : World} {K : Act → World → Prop} {Q : Exit → Act → World → Prop} {F : Prop} (hg : Region.wanted o (yielded ops a.tmps) = true) (x : Operand) (ho : o.op = .buildSlice 22 1 #[(0, x)]) (ys : List Value) (hx : a.eval x = .agg ys.toArray) (hl : ys.length = 64)
    (h : K (a.put o.dst (.slice (some ⟨w.heap.size, 0, none⟩) 1 1)) (w.alloc (.cells ys.toArray 47))) : if Region.wanted o (yielded ops a.tmps) = true then Oper.wp Try.prog o a w K Q else F := by
  rw [if_pos hg]
  obtain ⟨i0, hi, hz0, hz1, hz2⟩ := info_parts info_blk3
  refine wp_buildSlice 22 47 1 #[(0, x)] ho ys.toArray i0 (.agg zeroB.toArray) Try.underlying22 hi hz0 (by rw [hz1]; omega) (by rw [hz1]; omega) ?_ h
  have e : (#[(0, x)].map fun (i, x) => (i, a.eval x)).toList = [(0, .agg ys.toArray)] := by simp [hx]
  rw [e, hz1]
  exact fill_blk ys hl _ (by simp)
theorem step_ownB {ops : Array Oper} {o : Oper} {a : Act} {K : Act → World → Prop} {Q : Exit → Act → World → Prop} {F : Prop} (w0 : World) (hgd : Region.wanted o (yielded ops a.tmps) = true) (s x : Operand)
    (ho : o.op = .call { callee := .builtin .append, args := #[s, x], argTypes := #[22, 22] })
    (B : Nat) (v : Value) (l : List (List Int)) (rs : List Row) (hs : a.eval s = v) (HO : Owns B (blkRow v l :: rs) w0) (r : List Int) (ys : List Value) (hys : ys = ints .i64 r) (hr : r.length = 64) (hx : a.eval x = .slice (some ⟨w0.heap.size, 0, none⟩) 1 1)
    (h63 : l.length + 1 ≤ 1000000)
    (h : ∀ v' w', Owns B (blkRow v' (l ++ [r]) :: rs) w' → (w0.alloc (.cells ys.toArray 47)).grownBy w' v.ownBlock → Below B w0 w' → w0.heap.size < w'.heap.size → K (a.put o.dst v') w') : if Region.wanted o (yielded ops a.tmps) = true then Oper.wp Try.prog o a (w0.alloc (.cells ys.toArray 47)) K Q else F := by
  subst hys
  have e := rowsC_one r
  rw [if_pos hgd]
  refine wp_ownV _ s x _ ho B 47 64 512 elem_blk v l.length (rowsC l) rs hs (HO.alloc _) (w0.heap.size + 1) _ 1 1 (rowsC [r]) hx (by rw [e]; exact Seen.new w0 (ints .i64 r) _ _ (Nat.lt_succ_self _)) (by rw [e, ints_length, hr]) (by rw [e]; exact ints_one) (by unfold maxLen; omega) (by omega) ?_
  intro v' w' h2 hg h3
  have := h3.size
  refine h v' w' ?_ hg (((Below.refl _ _).alloc HO.base _).trans h3) (by simp at this; omega)
  rw [← blkRow_append]
  exact h2
end Go.Proofs.Ytbboakdfnjjddaa
