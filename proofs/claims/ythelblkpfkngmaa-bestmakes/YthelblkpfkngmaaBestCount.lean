/- Chains: bounds; how often each symbol comes, as a map. -/
import Derived.Test.YthelblkpfkngmaaPMath
import Derived.Test.YthelblkpfkngmaaBunMem
import Derived.Test.YthelblkpfkngmaaBestMap
namespace Go.Proofs.Ythelblkpfkngmaa
open Go.RowKit
set_option linter.unusedVariables false
set_option linter.unusedSimpArgs false

theorem Chain.lens {w : Int → Nat} {idx : List Int} {j : Nat} {l : List Bun} (h : Chain w idx j l) : l.length ≤ 2 * idx.length := by
  induction h with
  | zero => simp
  | succ h hp hq ih =>
    have := hp.length_eq
    rw [List.length_append, pairsOf_length] at this
    simp only [singlesOf, List.length_map] at this
    omega
theorem pairs_short {m : Nat} {l : List Bun} (h : ∀ b ∈ l, b.2.length ≤ m) : ∀ b ∈ pairsOf l, b.2.length ≤ 2 * m := by
  induction l using two_ind with
  | h0 => intro b hb; simp [pairsOf] at hb
  | h1 a => intro b hb; simp [pairsOf] at hb
  | h2 a b l ih =>
    intro c hc
    simp only [pairsOf, List.mem_cons] at hc
    rcases hc with rfl | hc
    · have h1 := h a (by simp)
      have h2 := h b (by simp)
      simp [mergeB]; omega
    · exact ih (fun x hx => h x (by simp [hx])) c hc
theorem Chain.syms {w : Int → Nat} {idx : List Int} {j : Nat} {l : List Bun} (h : Chain w idx j l) : ∀ b ∈ l, b.2.length ≤ 2 ^ j := by
  induction h with
  | zero => simp
  | @succ j l q h hp hq ih =>
    intro b hb
    rcases List.mem_append.1 (hp.mem_iff.1 hb) with hb | hb
    · simp only [singlesOf, List.mem_map] at hb
      obtain ⟨i, hi, rfl⟩ := hb
      have := Nat.two_pow_pos (j + 1)
      simp [single1]; omega
    · have := pairs_short ih b hb
      rw [Nat.pow_succ]; omega
theorem sumF_bound {α : Type} (l : List α) (f : α → Nat) (c : Nat) (h : ∀ x ∈ l, f x ≤ c) : sumF l f ≤ c * l.length := by
  rw [← sumF_const]; exact sumF_le h
theorem Chain.costs {w : Int → Nat} {idx : List Int} (hw : ∀ i ∈ idx, w i ≤ 9999) {j : Nat} {l : List Bun} (h : Chain w idx j l) : ∀ b ∈ l, b.1 ≤ 9999 * 2 ^ j := by
  intro b hb
  obtain ⟨h1, _, h3⟩ := h.each b hb
  have h2 := h.syms b hb
  have := sumF_bound b.2 w 9999 fun s hs => hw s (h3 s hs)
  rw [h1]
  exact Nat.le_trans this (Nat.mul_le_mul_left _ h2)
theorem Chain.long {w : Int → Nat} {idx : List Int} (h0 : 1 ≤ idx.length) (h256 : idx.length ≤ 512) {l : List Bun} (h : Chain w idx 16 l) : 2 * idx.length - 2 ≤ l.length := by
  refine (h.least (Nat.le_refl _) (fun _ => 9) (2 * idx.length - 2) (fun i _ => by omega) ?_).1
  rw [sumF_const, show wid 9 = 130816 by decide]
  omega
/-- How often each comes. -/
def cntF (f : List Int) : Int → Option Int := fun i => if f.count i = 0 then none else some (f.count i : Int)
theorem cntF_nil : cntF [] = fun _ => none := by funext i; simp [cntF]
theorem cntF_getD (f : List Int) (i : Int) : (cntF f i).getD 0 = (f.count i : Int) := by
  unfold cntF; split <;> simp_all
theorem cntF_snoc (f : List Int) (s : Int) : upd (cntF f) s ((f.count s : Int) + 1) = cntF (f ++ [s]) := by
  funext i
  unfold upd cntF
  rw [List.count_append]
  by_cases e : i = s
  · subst e
    rw [if_pos rfl, if_neg (by simp)]
    simp
  · have e2 : (s == i) = false := by simpa using fun h => e h.symm
    rw [if_neg e, List.count_singleton, e2]; simp
theorem asc_of {w : World} {G : Nat} {m : List Bun} {zs : List Hd} (h : BunsAre w G m zs) (hp : zs.Pairwise (fun x y => x.1 ≤ y.1)) : Asc m := by
  unfold Asc
  rw [List.pairwise_iff_getElem] at hp ⊢
  intro i j hi hj hij
  have hl := h.1
  have h1 := (h.2 i m[i] zs[i] (List.getElem?_eq_getElem _) (List.getElem?_eq_getElem _)).1
  have h2 := (h.2 j m[j] zs[j] (List.getElem?_eq_getElem _) (List.getElem?_eq_getElem _)).1
  have := hp i j (by omega) (by omega) hij
  omega
theorem flat_len {l : List Bun} {m : Nat} (h : ∀ b ∈ l, b.2.length ≤ m) : (flatB l).length ≤ m * l.length := by
  induction l with
  | nil => simp [flatB]
  | cons a l ih =>
    have h1 := h a (by simp)
    have h2 := ih fun b hb => h b (by simp [hb])
    rw [flatB_cons, List.length_append, List.length_cons, Nat.mul_add]; omega
theorem flat_snoc {l : List Bun} {k : Nat} {b : Bun} (h : l[k]? = some b) : flatB (l.take (k + 1)) = flatB (l.take k) ++ b.2 := by
  rw [take_snoc h, flatB_append]; simp [flatB]
end Go.Proofs.Ythelblkpfkngmaa
