/- Least costs compared; what symbols of different counts have. No program is named here. -/
import Derived.Test.YthelblkpfkngmaaBestMath
namespace Go.Proofs.Ythelblkpfkngmaa
open Go.RowKit
set_option linter.unusedVariables false
set_option linter.unusedSimpArgs false

theorem used_iff {zs : List Int} {i : Int} : i ∈ used zs ↔ 1 ≤ cntZ zs i := by
  constructor
  · intro h; exact (used_pos h).2.2
  · intro h
    unfold cntZ at h
    split at h
    · omega
    · cases hz : zs[i.toNat]? with
      | none => simp [hz] at h
      | some x =>
        simp [hz] at h
        exact used_mem.2 ⟨i.toNat, x, by omega, hz, by omega⟩
theorem sumF_map {α β : Type} (l : List α) (f : α → β) (g : β → Nat) : sumF (l.map f) g = sumF l fun x => g (f x) := by simp [sumF, List.map_map, Function.comp_def]
theorem nodup_map {α β : Type} {l : List α} {f : α → β} (hn : l.Nodup) (h : ∀ i ∈ l, ∀ j ∈ l, f i = f j → i = j) : (l.map f).Nodup := by
  induction l with
  | nil => simp
  | cons a l ih =>
    obtain ⟨h1, h2⟩ := List.nodup_cons.1 hn
    rw [List.map_cons, List.nodup_cons]
    refine ⟨fun hm => ?_, ih h2 fun i hi j hj => h i (by simp [hi]) j (by simp [hj])⟩
    obtain ⟨b, hb, e⟩ := List.mem_map.1 hm
    have := h a (by simp) b (by simp [hb]) e.symm
    subst this; exact h1 hb
/-- Counts that are no greater, symbol by symbol, take no more. -/
theorem least_le {zs ys : List Int} {f : Int → Int} (hf : ∀ i ∈ used zs, cntZ zs i ≤ cntZ ys (f i)) (hinj : ∀ i ∈ used zs, ∀ j ∈ used zs, f i = f j → i = j) {L L' : Int → Nat} (h : BestL zs L) (h' : CodeL ys L') : costL zs L ≤ costL ys L' := by
  have hu : ∀ i ∈ used zs, f i ∈ used ys := fun i hi => used_iff.2 (by have := hf i hi; have := used_iff.1 hi; omega)
  have hnd := nodup_map (used_nodup zs) hinj
  have hsub : ∀ x ∈ (used zs).map f, x ∈ used ys := by
    intro x hx; obtain ⟨i, hi, rfl⟩ := List.mem_map.1 hx; exact hu i hi
  refine Nat.le_trans (h.least (fun i => L' (f i)) ⟨fun i hi => h'.1 _ (hu i hi), ?_⟩) ?_
  · have := sumF_sub hnd hsub (fun i => 2 ^ (16 - L' i))
    rw [sumF_map] at this
    exact Nat.le_trans this h'.2
  · have := sumF_sub hnd hsub (fun i => cntZ ys i * L' i)
    rw [sumF_map] at this
    refine Nat.le_trans (sumF_le fun i hi => ?_) this
    exact Nat.mul_le_mul_right _ (hf i hi)
/-- What comes more often has no longer a word. -/
theorem order_of {zs : List Int} {L : Int → Nat} (h : BestL zs L) {i j : Int} (hi : i ∈ used zs) (hj : j ∈ used zs) (hc : cntZ zs j < cntZ zs i) : L i ≤ L j := by
  refine Nat.le_of_not_lt fun hl => ?_
  have hne : i ≠ j := by rintro rfl; omega
  obtain ⟨r1, p1⟩ : ∃ r, (used zs).Perm (i :: r) := ⟨_, List.perm_cons_erase hi⟩
  have hj1 : j ∈ r1 := by
    have := p1.mem_iff.1 hj
    rcases List.mem_cons.1 this with e | e
    · exact absurd e.symm hne
    · exact e
  obtain ⟨r, p2⟩ : ∃ r, r1.Perm (j :: r) := ⟨_, List.perm_cons_erase hj1⟩
  have p : (used zs).Perm (i :: j :: r) := p1.trans (p2.cons i)
  have hnd := p.nodup_iff.1 (used_nodup zs)
  obtain ⟨n1, n2⟩ := List.nodup_cons.1 hnd
  obtain ⟨n3, n4⟩ := List.nodup_cons.1 n2
  obtain ⟨L', hL'⟩ : ∃ L' : Int → Nat, L' = fun s => if s = i then L j else if s = j then L i else L s := ⟨_, rfl⟩
  have e1 : L' i = L j := by rw [hL']; simp
  have e2 : L' j = L i := by rw [hL']; simp only [if_neg (fun e : j = i => hne e.symm), if_true]
  have e3 : ∀ s ∈ r, L' s = L s := by
    intro s hs
    have a1 : s ≠ i := by rintro rfl; exact n1 (by simp [hs])
    have a2 : s ≠ j := by rintro rfl; exact n3 hs
    rw [hL']; simp [a1, a2]
  have hcode : CodeL zs L' := by
    refine ⟨fun s hs => ?_, ?_⟩
    · rcases List.mem_cons.1 (p.mem_iff.1 hs) with rfl | hs
      · rw [e1]; exact h.code.1 j hj
      · rcases List.mem_cons.1 hs with rfl | hs
        · rw [e2]; exact h.code.1 i hi
        · rw [e3 s hs]; exact h.code.1 s (p.mem_iff.2 (by simp [hs]))
    · have h2 := h.code.2
      rw [sumF_perm p, sumF_cons, sumF_cons] at h2 ⊢
      rw [e1, e2, sumF_congr (g := fun s => 2 ^ (16 - L s)) fun s hs => by rw [e3 s hs]]
      omega
  have hle := h.least L' hcode
  unfold costL at hle
  rw [sumF_perm p, sumF_perm p, sumF_cons, sumF_cons, sumF_cons, sumF_cons, e1, e2, sumF_congr (f := fun s => cntZ zs s * L' s) (g := fun s => cntZ zs s * L s) fun s hs => by rw [e3 s hs]] at hle
  obtain ⟨d, hd⟩ : ∃ d, cntZ zs i = cntZ zs j + 1 + d := ⟨cntZ zs i - cntZ zs j - 1, by omega⟩
  obtain ⟨q, hq⟩ : ∃ q, L i = L j + 1 + q := ⟨L i - L j - 1, by omega⟩
  rw [hd, hq] at hle
  generalize cntZ zs j = c at *
  generalize L j = m at *
  have : (c + 1 + d) * (m + 1 + q) + c * m = (c + 1 + d) * m + c * (m + 1 + q) + (1 + d) * (1 + q) := by
    simp only [Nat.add_mul, Nat.mul_add]; omega
  have hpos : 0 < (1 + d) * (1 + q) := Nat.mul_pos (by omega) (by omega)
  omega
/-- All occurrences. -/
def allZ (zs : List Int) : Nat := sumF (used zs) (cntZ zs)
theorem cost_ge {zs : List Int} {L : Int → Nat} (h : CodeL zs L) : allZ zs ≤ costL zs L := by
  unfold allZ costL
  refine sumF_le fun i hi => ?_
  have := Nat.mul_le_mul_left (cntZ zs i) (h.1 i hi).1
  omega
theorem flat_pow {wd kinds : Nat} (h1 : 1 ≤ wd) (h16 : wd ≤ 16) (h : kinds + 1 ≤ 2 ^ wd) : 2 ^ (16 - wd) * kinds ≤ 65535 := by
  have e : 2 ^ (16 - wd) * 2 ^ wd = 65536 := by rw [← Nat.pow_add, show 16 - wd + wd = 16 by omega]
  have h2 := Nat.mul_le_mul_left (2 ^ (16 - wd)) h
  have h3 := Nat.two_pow_pos (16 - wd)
  rw [e, Nat.mul_add] at h2
  omega
theorem cost_le {zs : List Int} {L : Int → Nat} (h : BestL zs L) {wd : Nat} (h16 : wd ≤ 16) (hk : (used zs).length + 1 ≤ 2 ^ wd) : costL zs L ≤ allZ zs * wd := by
  rcases Nat.eq_zero_or_pos wd with h0 | h1
  · subst h0
    have : (used zs).length = 0 := by have e : 2 ^ 0 = 1 := rfl; omega
    unfold costL
    rw [List.length_eq_zero_iff.1 this]; simp [sumF]
  · have := h.least (fun _ => wd) ⟨fun i _ => ⟨h1, h16⟩, by rw [sumF_const]; exact flat_pow h1 h16 hk⟩
    refine Nat.le_trans this (Nat.le_of_eq ?_)
    unfold costL allZ
    rw [Nat.mul_comm, ← sumF_mul]
    exact sumF_congr fun i _ => Nat.mul_comm _ _
end Go.Proofs.Ythelblkpfkngmaa
