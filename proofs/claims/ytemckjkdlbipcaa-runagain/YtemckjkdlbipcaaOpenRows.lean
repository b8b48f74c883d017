/- From the form's reading of a slice of structs or arrays of integers to the words of Mem. -/
import Derived.Test.YtemckjkdlbipcaaRowsC
import Derived.Test.YtemckjkdlbipcaaRows
import Derived.ProofKit
import Derived.OpenShut
import Derived.ChangeSame
import Derived.Deep.Slices
import Derived.SizedLaws
namespace Go.Proofs.Ytemckjkdlbipcaa
open Go.RowKit Go.ChangeShapes Go.WideShapes Go.ChangeAt Go.Deep
set_option linter.unusedVariables false
set_option linter.unusedSimpArgs false
set_option maxRecDepth 100000

section
variable {H : Type} {enc : TypeId × Value → H}
/-- A slice whose elements are n integers each. -/
theorem openRows {W : World} {t e : TypeId} {n : Nat} {a : Option Addr} {len cap : Nat} {d : DataW H} {p : List MemPlace} {sp : Nat → Bool} {hd : Bool}
    (ht : Try.prog.underlying t = some (.slice e)) (hn : Try.prog.cellsOf e = n) (hp : 0 < n)
    (hel : ∀ (fuel : Nat) (cs : List Value) (x : DataW H × List MemPlace), DataW.trod enc Try.prog W 0 sp hd fuel e cs = some x → ∃ is : List Int, cs = ints .i64 is ∧ is.length = n ∧ ∀ c ∈ is, (Lit.int .i64 c).wf = true)
    (h : DataW.Trod enc Try.prog W 0 sp hd t (.slice a len cap) d p) :
    ∃ L : List (List Int), len = L.length ∧ Seen W W.heap.size a (rowsC L) ∧ (∀ r ∈ L, r.length = n ∧ ∀ c ∈ r, (Lit.int .i64 c).wf = true) ∧ L.length ≤ maxLen ∧ cap ≤ maxLen ∧ L.length ≤ cap := by
  obtain ⟨fuel, hf⟩ := h
  rcases open_slice ht hf with ⟨hcs, _⟩ | ⟨x, l, c, m, k, D, Pl, hcs, _, hl, hm, hmm, hx, hi⟩
  · simp [Value.cells] at hcs
    obtain ⟨rfl, rfl, rfl⟩ := hcs
    exact ⟨[], rfl, .inl rfl, by simp, Nat.zero_le _, Nat.zero_le _, Nat.zero_le _⟩
  · simp [Value.cells] at hcs
    obtain ⟨rfl, rfl, rfl⟩ := hcs
    have hlm : len ≤ m := by rw [hmm]; split <;> omega
    have each : ∀ i, i < len → ∃ is : List Int, is.length = n ∧ (∀ c ∈ is, (Lit.int .i64 c).wf = true) ∧ ∀ j u, (ints .i64 is)[j]? = some u → W.cell? (x.add (i * n + j)) = some u := by
      intro i hil
      obtain ⟨cs', h1, h2⟩ := hi i (by omega)
      obtain ⟨is, rfl, h3, h4⟩ := hel _ _ _ h2
      rw [hn] at h1
      obtain ⟨_, hlen, hcell⟩ := World.cells?_some h1
      refine ⟨is, h3, h4, fun j u hu => ?_⟩
      have hj : j < n := by have := (List.getElem?_eq_some_iff.1 hu).1; rw [ints_length] at this; omega
      have h5 := hcell j hj
      rw [add_add] at h5
      rw [h5]
      simpa using hu
    obtain ⟨q, hq⟩ := choose_lt each
    have hlens : ∀ r ∈ (List.range len).map q, r.length = n := by
      intro r hr
      obtain ⟨i, hi', rfl⟩ := List.mem_map.1 hr
      exact (hq i (by simpa using hi')).1
    refine ⟨(List.range len).map q, by simp, ?_, ?_, by simp; omega, hm, by simpa using hl⟩
    · by_cases hz : len = 0
      · subst hz; exact .inl rfl
      · obtain ⟨v0, hv0⟩ := some_at (xs := ints .i64 (q 0)) (j := 0) (by rw [ints_length, (hq 0 (by omega)).1]; exact hp)
        have h1 := (hq 0 (by omega)).2.2 0 v0 hv0
        have hsp := World.cell?_spot h1
        have hb := World.block_lt_of_cell? W _ h1
        obtain ⟨b, o, s⟩ := x
        simp [Addr.add] at hsp hb
        subst hsp
        refine .inr ⟨b, o, rfl, hb, fun j u hu => ?_⟩
        have hjl := (List.getElem?_eq_some_iff.1 hu).1
        rw [rowsC_length hlens, List.length_map, List.length_range] at hjl
        have hi' : j / n < len := Nat.div_lt_of_lt_mul (by rw [Nat.mul_comm]; exact hjl)
        have hjn : j % n < n := Nat.mod_lt _ hp
        have hdm : j / n * n + j % n = j := by rw [Nat.mul_comm]; exact Nat.div_add_mod j n
        have hg : ((List.range len).map q)[j / n]? = some (q (j / n)) := by simp [hi']
        have h6 := rowsC_at hlens hg hjn
        rw [hdm] at h6
        rw [h6] at hu
        have h7 := (hq _ hi').2.2 _ _ hu
        rw [hdm] at h7
        have add' : (⟨b, o, none⟩ : Addr).add j = ⟨b, o + j, none⟩ := by
          unfold Addr.add; split
          · rename_i e; subst e; rfl
          · rfl
        rw [add'] at h7
        exact h7
    · intro r hr
      obtain ⟨i, hi', rfl⟩ := List.mem_map.1 hr
      exact ⟨(hq i (by simpa using hi')).1, (hq i (by simpa using hi')).2.1⟩
/-- What a slice takes by the form's own reach. -/
theorem sizedRows {W : World} {t e : TypeId} {a : Option Addr} {len cap : Nat} {d : DataW H} {p : List MemPlace} {sp : Nat → Bool} {hd : Bool} {ts : List TypeId} {ds : List (DataW H)} {j N : Nat}
    (ht : Try.prog.underlying t = some (.slice e))
    (h : DataW.Trod enc Try.prog W 0 sp hd t (.slice a len cap) d p) (hsz : (DataW.weightsEach Try.prog ts ds).all (· ≤ reachBytes) = true) (hts : ts[j]? = some t) (hds : ds[j]? = some d) (hN : Try.prog.bytesOf e = N) : len * N ≤ 140737488351232 := by
  obtain ⟨fuel, hf⟩ := h
  rcases open_slice ht hf with ⟨hcs, _⟩ | ⟨x, l, c, m, k, D, Pl, hcs, _, hl, hm, hmm, hx, hi⟩
  · simp [Value.cells] at hcs
    obtain ⟨rfl, rfl, rfl⟩ := hcs
    omega
  · simp [Value.cells] at hcs
    obtain ⟨rfl, rfl, rfl⟩ := hcs
    simp only [Prod.mk.injEq] at hx
    have hd := hx.1
    subst hd
    have h3 := sized_slice hsz hts hds ht
    rw [hN] at h3
    have h5 : len * N ≤ (((List.range len).map D).length + ((List.range (m - len)).map fun j => D (len + j)).length) * N := Nat.mul_le_mul_right N (by simp)
    have h6 : reachBytes = 140737488351232 := rfl
    omega
end
end Go.Proofs.Ytemckjkdlbipcaa
