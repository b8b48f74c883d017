/- The reference's table of least costs holds what the best lengths take. No program is named here. -/
import Derived.Test.YthelblkpfkngmaaDpMath
import Derived.Test.YthelblkpfkngmaaBestMath2
namespace Go.Proofs.Ythelblkpfkngmaa
set_option linter.unusedVariables false
set_option linter.unusedSimpArgs false

theorem perm_map_inv {α β : Type} (f : α → β) : ∀ (m : List β) (l : List α), m.Perm (l.map f) → ∃ l' : List α, l'.Perm l ∧ l'.map f = m
  | [], l, h => ⟨[], by
      have := h.symm.eq_nil
      rw [List.map_eq_nil_iff.1 this], rfl⟩
  | b :: m, l, h => by
    have hb : b ∈ l.map f := h.mem_iff.1 (by simp)
    obtain ⟨a, ha, rfl⟩ := List.mem_map.1 hb
    obtain ⟨s, t, rfl⟩ := List.append_of_mem ha
    have hp : (s ++ a :: t).Perm (a :: (s ++ t)) := List.perm_middle
    have h2 : (f a :: m).Perm (f a :: (s ++ t).map f) := h.trans (hp.map f)
    obtain ⟨l', h3, h4⟩ := perm_map_inv f m (s ++ t) h2.cons_inv
    exact ⟨a :: l', (h3.cons a).trans hp.symm, by rw [List.map_cons, h4]⟩
def lookL (us : List Int) (ls : List Nat) (i : Int) : Nat := ((us.zip ls).lookup i).getD 0
theorem lookL_map : ∀ (us : List Int) (ls : List Nat), us.Nodup → us.length = ls.length → us.map (lookL us ls) = ls
  | [], [], _, _ => rfl
  | [], _ :: _, _, h => by simp at h
  | _ :: _, [], _, h => by simp at h
  | u :: us, l :: ls, hn, h => by
    obtain ⟨h1, h2⟩ := List.nodup_cons.1 hn
    have ih := lookL_map us ls h2 (by simpa using h)
    rw [List.map_cons]
    have e1 : lookL (u :: us) (l :: ls) u = l := by simp [lookL, List.lookup]
    have e2 : us.map (lookL (u :: us) (l :: ls)) = us.map (lookL us ls) := by
      refine List.map_congr_left fun i hi => ?_
      have : (i == u) = false := by simpa using fun e : i = u => h1 (e ▸ hi)
      simp [lookL, List.lookup, this]
    rw [e1, e2, ih]
theorem room_map (us : List Int) (L : Int → Nat) : roomL' (us.map L) = sumF us fun i => 2 ^ (16 - L i) := by simp [roomL', sumF, List.map_map, Function.comp_def]
theorem cost_map (us : List Int) (f : Int → Nat) (L : Int → Nat) : costV' (us.map f) (us.map L) 0 = sumF us fun i => f i * L i := by
  induction us with
  | nil => rfl
  | cons u us ih => simp only [costV', List.map_cons, List.zipWith_cons_cons, List.sum_cons, sumF_cons] at ih ⊢; rw [ih]; simp
theorem costV'_snoc {vs ls : List Nat} (h : vs.length = ls.length) (v l b : Nat) : costV' (vs ++ [v]) (ls ++ [l]) b = costV' vs ls b + v * (l - b) := by
  unfold costV'
  rw [List.zipWith_append h]; simp
theorem roomL'_snoc (ls : List Nat) (l : Nat) : roomL' (ls ++ [l]) = roomL' ls + 2 ^ (16 - l) := by simp [roomL']
theorem cost_zero {vs ls : List Nat} (h : vs.length = ls.length) (hl : ∀ l ∈ ls, 1 ≤ l) : costV' vs ls 0 = vs.sum + costV' vs ls 1 := cost_next 0 vs ls h hl
theorem dp_best {zs : List Int} {L : Int → Nat} (hL : BestL zs L) (h256 : zs.length ≤ 256) (hmax : ∀ i, cntZ zs i ≤ 9999) {srt : List Nat} (hs : srt.Perm ((used zs).map (cntZ zs))) (hd : srt.Pairwise (fun x y => y ≤ x)) :
    (srt ++ [0]).sum + dpT 15 (srt ++ [0]) 2 = costL zs L := by
  obtain ⟨us, hu, hm⟩ := perm_map_inv (cntZ zs) srt (used zs) hs
  have hun : us.Nodup := hu.nodup_iff.2 (used_nodup zs)
  have hul : us.length = srt.length := by rw [← hm]; simp
  have hlen : us.length ≤ 256 := by rw [hu.length_eq]; exact Nat.le_trans (used_len zs) h256
  have hdd : (srt ++ [0]).Pairwise (fun x y => y ≤ x) := by
    rw [List.pairwise_append]
    exact ⟨hd, by simp, fun a _ b hb => by simp at hb; omega⟩
  have e15 : 2 * 2 ^ 15 = 65536 := by decide
  -- no lengths undercut it
  have low : (srt ++ [0]).sum + dpT 15 (srt ++ [0]) 2 ≤ costL zs L := by
    have h1 := dpT_low 15 (by omega) (srt ++ [0]) (us.map L ++ [16]) 2 (by simp [hul]) hdd (fun l hl => by
      rcases List.mem_append.1 hl with hl | hl
      · obtain ⟨i, hi, rfl⟩ := List.mem_map.1 hl
        exact hL.code.1 i (hu.mem_iff.1 hi)
      · simp at hl; omega) (by
      rw [roomL'_snoc, room_map, sumF_perm hu]
      have := hL.code.2
      have e : 2 ^ (16 - 16) = 1 := by decide
      omega)
    have h2 := cost_zero (vs := srt ++ [0]) (ls := us.map L ++ [16]) (by simp [hul]) (fun l hl => by
      rcases List.mem_append.1 hl with hl | hl
      · obtain ⟨i, hi, rfl⟩ := List.mem_map.1 hl
        exact (hL.code.1 i (hu.mem_iff.1 hi)).1
      · simp at hl; omega)
    rw [costV'_snoc (by simp [hul]), ← hm, cost_map, sumF_perm hu] at h2
    rw [show 16 - 15 = 1 from rfl] at h1
    rw [← hm] at h1 ⊢
    unfold costL
    omega
  refine Nat.le_antisymm low ?_
  have hsum : srt.sum ≤ 9999 * 256 := by
    have : ∀ l : List Nat, (∀ x ∈ l, x ≤ 9999) → l.sum ≤ 9999 * l.length := by
      intro l
      induction l with
      | nil => intro _; simp
      | cons a l ih => intro h; have := h a (by simp); have := ih fun x hx => h x (by simp [hx]); simp only [List.sum_cons, List.length_cons]; omega
    have h1 := this srt fun x hx => by rw [← hm] at hx; obtain ⟨i, _, rfl⟩ := List.mem_map.1 hx; exact hmax i
    omega
  have hfar : dpT 15 (srt ++ [0]) 2 < far := by
    have h1 := dpT_low 15 (by omega) (srt ++ [0]) (List.replicate (srt ++ [0]).length 9) 2 (by simp) hdd (fun l hl => by rw [List.eq_of_mem_replicate hl]; omega) (by
      unfold roomL'
      rw [List.map_replicate, List.sum_replicate_nat]
      have e : 2 ^ (16 - 9) = 128 := by decide
      have : (srt ++ [0]).length ≤ 257 := by simp; omega
      omega)
    have key : ∀ vs : List Nat, costV' vs (List.replicate vs.length 9) (16 - 15) = 8 * vs.sum := by
      intro vs
      induction vs with
      | nil => rfl
      | cons v vs ih => simp only [costV', List.length_cons, List.replicate_succ, List.zipWith_cons_cons, List.sum_cons] at ih ⊢; rw [ih]; omega
    rw [key] at h1
    have : (srt ++ [0]).sum = srt.sum := by simp
    unfold far
    omega
  obtain ⟨ls, g1, g2, g3, g4⟩ := dpT_hit 15 (by omega) (srt ++ [0]) 2 hfar
  have hne : ls ≠ [] := by rintro rfl; simp at g1
  obtain ⟨l1, l0, rfl⟩ : ∃ l1 l0, ls = l1 ++ [l0] := ⟨ls.dropLast, ls.getLast hne, (List.dropLast_concat_getLast hne).symm⟩
  have hl1 : us.length = l1.length := by simp at g1; omega
  have hmap := lookL_map us l1 hun hl1
  have hcode : CodeL zs (lookL us l1) := by
    refine ⟨fun i hi => ?_, ?_⟩
    · have : lookL us l1 i ∈ l1 := by
        have h6 := List.mem_map_of_mem (f := lookL us l1) (hu.mem_iff.2 hi)
        rw [hmap] at h6; exact h6
      exact g2 _ (by simp [this])
    · rw [← sumF_perm hu, ← room_map, hmap]
      rw [roomL'_snoc] at g3
      have := Nat.two_pow_pos (16 - l0)
      omega
  refine Nat.le_trans (hL.least _ hcode) ?_
  have h5 := cost_zero g1 (fun l hl => (g2 l hl).1)
  rw [costV'_snoc (by simp at g1; omega)] at h5
  rw [show 16 - 15 = 1 from rfl] at g4
  rw [← g4, ← h5]
  unfold costL
  rw [← sumF_perm hu, ← cost_map, hmap, hm]
  omega
end Go.Proofs.Ythelblkpfkngmaa
