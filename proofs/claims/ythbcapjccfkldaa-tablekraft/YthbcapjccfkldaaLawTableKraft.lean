/- TableKraft returns true: each codeword lies right behind the one ahead, and all of them leave room. -/
import Derived.Test.YthbcapjccfkldaaLawTablePrefix
namespace Go.Proofs.Ythbcapjccfkldaa
open Go.RowKit
set_option linter.unusedVariables false
set_option linter.unusedSimpArgs false

def roomL (l : List (Nat × Nat)) : Nat := (l.map fun p => 2 ^ (16 - p.1)).sum
theorem roomL_take {l : List (Nat × Nat)} {k : Nat} {p : Nat × Nat} (h : l[k]? = some p) : roomL (l.take (k + 1)) = roomL (l.take k) + 2 ^ (16 - p.1) := by
  rw [take_snoc h]; simp [roomL]
theorem Kr.room {R : Nat} {l : List (Nat × Nat)} (h : Kr R l) : R + roomL l < 65536 ∧ ∀ (k : Nat) (p : Nat × Nat), l[k]? = some p → p.2 * 2 ^ (16 - p.1) = R + roomL (l.take k) := by
  induction l generalizing R with
  | nil => exact ⟨by have h2 : R < 65536 := h; simpa [roomL] using h2, by simp⟩
  | cons q l ih =>
    obtain ⟨h1, h2, h3, h4, h5⟩ := h
    obtain ⟨h6, h7⟩ := ih h5
    refine ⟨by simp [roomL] at h6 ⊢; omega, ?_⟩
    intro k p hp
    match k with
    | 0 => simp at hp; subst hp; simp [roomL]; exact h3
    | k + 1 =>
      have := h7 k p (by simpa using hp)
      rw [this]
      simp [roomL]; omega
theorem Kr.mono {R : Nat} {l : List (Nat × Nat)} (h : Kr R l) {k : Nat} {p q : Nat × Nat} (hp : l[k]? = some p) (hq : l[k + 1]? = some q) : p.1 ≤ q.1 := by
  have ha := List.pairwise_iff_getElem.1 h.apart
  obtain ⟨hi, rfl⟩ := List.getElem?_eq_some_iff.1 hp
  obtain ⟨hk, rfl⟩ := List.getElem?_eq_some_iff.1 hq
  exact (ha k (k + 1) hi hk (by omega)).1

set_option maxRecDepth 100000 in
set_option maxHeartbeats 1000000 in
theorem tableKraft_walk (cs : List Int) (A : Option Addr) (c : Nat) (syms : List Int) (w : World) (hcs : cs.length = 16) (hb : ∀ x ∈ cs, -9223372036854775808 ≤ x ∧ x ≤ 9223372036854775807) (hs : Seen w w.heap.size A (ints .i64 syms)) (hwf : ∀ x ∈ syms, (Lit.int .i64 x).wf = true) (hn : syms.length ≤ maxLen) :
    Calls Try.prog 8 #[tabV cs A syms.length c] w fun e w' => e = .returned (.bool true) ∧ Below w.heap.size w w' := by
  have hlen17 : (tabCells cs A syms.length c).length = 17 := tabCells_length hcs
  have hck := fun w1 h1 hG1 => words_any cs syms A c w.heap.size w1 hcs hn hb h1 hG1
  have Hcs := veil hcs
  clear hcs hb hwf
  unfold maxLen at hn
  obtain ⟨ys, hys⟩ : ∃ ys, ys = tabCells cs A syms.length c := ⟨_, rfl⟩
  have Hr := veil (range_new w ys 25)
  unfold tabV at hck ⊢
  rw [← hys] at hlen17 hck ⊢
  clear hys
  have Hck := veil hck; clear hck
  have H17 := veil hlen17; clear hlen17
  go_enter Try.func8, Try.ntmps8
  go_wp2_with fail
  refine (tabled_any _).mono ?_
  rintro e w0 ⟨rfl, hb0⟩
  have hr0 : w0.rangeAt w.heap.size 0 ys := range_below Hr.out hb0 (by simp)
  have Hr0 := veil hr0
  have hbel0 : Below w.heap.size w w0 := (below1 _ _).trans (hb0.mono (by simp))
  have hz0 := hb0.size
  simp at hz0
  clear Hr hr0 hb0
  go_wp2_with (first
    | (refine wpList_load_mid rfl 25 (.tmp 1) rfl w.heap.size 0 rfl ys _ Hr0.out Try.underlying25 rfl (by rw [H17.out]; exact info_tab) ?_)
    | fail)
  refine (Hck.out _ (hs.below hbel0 (Nat.le_refl _)) (by omega)).mono ?_
  rintro e w1 ⟨v, rfl, HO, hb1⟩
  have hbel1 : Below w.heap.size w w1 := hbel0.trans (hb1.mono (by omega))
  clear Hr0 hb1 Hck
  by_cases h0 : checkErr cs syms = 0
  · obtain ⟨l, hf, how, hll⟩ := fine_of h0
    have h256 := hf.good.le
    rw [how] at HO
    have hwl : (mkWords syms l).length = syms.length := by rw [mkWords_length _ _ (by omega), hll]
    obtain ⟨A5, c5, e5, hs5, _, _⟩ := HO.seen (List.mem_cons_self ..)
    simp only [wordRow] at e5 hs5
    rw [hwl] at e5
    subst e5
    have hkr := hf.kr Hcs.out
    have Hkr := veil hkr; have Hwl := veil hwl; have Hll := veil hll
    rw [h0]
    clear hkr hwl hll hf how HO h0
    go_wp2_with fail
    go_loopg [5, 6, 7, 19] syms.length (fun gk r i0 p0 i wr => ∃ k R : Nat, gk = syms.length - k ∧ k ≤ syms.length ∧ i = .int .i64 k ∧ r = .int .i64 R ∧ Hid (R = roomL (l.take k)) ∧ R < 65536 ∧ Below w1.heap.size w1 wr)
    case atStart => exact ⟨0, 0, rfl, Nat.zero_le _, rfl, rfl, veil rfl, by omega, Below.refl _ _⟩
    case round =>
      obtain ⟨k, R, rfl, hk, rfl, rfl, HR, hR, hbel⟩ := hrel
      have hz := hbel.size
      by_cases hlt : k < syms.length
      · obtain ⟨g, o, s, n, m, rfl, hg, hxk, h1, h2, h3⟩ := hs5.triple (k := k) (by rw [Hwl.out]; exact hlt)
        rw [← hbel.cell (by simp; omega)] at h1 h2 h3
        obtain ⟨_, hlk⟩ := mkWords_at hxk
        have hnm := Hkr.out.ge _ (List.mem_of_getElem? hlk)
        have hroom := Hkr.out.room.2 _ _ hlk
        have hn1 : 1 ≤ n := hnm.1
        have hn16 : n ≤ 16 := hnm.2.1
        have hlast := hnm.2.2.2
        rw [Nat.zero_add, ← HR.out] at hroom
        simp only at hroom hlast
        have Hlk := veil hlk; have Hroom := veil hroom; have Hlast := veil hlast
        clear hxk hlk hnm hroom hlast
        have hbel2 := hbel.trans ((below1 wr (Obj.cells #[Value.int IntKind.i64 s, Value.int IntKind.i64 (n : Int), Value.int IntKind.i64 (m : Int)] 35)).mono hz)
        have d1 : (wr.alloc (Obj.cells #[Value.int IntKind.i64 s, Value.int IntKind.i64 (n : Int), Value.int IntKind.i64 (m : Int)] 35)).cell? ⟨wr.heap.size, 1, none⟩ = some (.int .i64 (n : Int)) := by simp
        have d2 : (wr.alloc (Obj.cells #[Value.int IntKind.i64 s, Value.int IntKind.i64 (n : Int), Value.int IntKind.i64 (m : Int)] 35)).cell? ⟨wr.heap.size, 2, none⟩ = some (.int .i64 (m : Int)) := by simp
        have e1 : decide ((n : Int) < 1) = false := by simp; omega
        have e2 : decide (16 < (n : Int)) = false := by simp; omega
        obtain ⟨D, hD⟩ : ∃ D, D = 16 - n := ⟨_, rfl⟩
        have hw : IntKind.i64.wrap (16 - (n : Int)) = (D : Int) := by rw [IntKind.wrap_i64]; omega
        have hmD : m * 2 ^ D = R := by rw [hD]; exact Hroom.out
        have hsh : IntKind.i64.wrap ((m : Int) * 2 ^ min D 64) = (R : Int) := by
          rw [Nat.min_eq_left (by omega), show ((m : Int) * 2 ^ D) = ((m * 2 ^ D : Nat) : Int) by simp, hmD, IntKind.wrap_i64]
          omega
        have hpD : 2 ^ D ≤ 65536 := Nat.pow_le_pow_right (n := 2) (by omega) (show D ≤ 16 by omega)
        have hR2 : R + 2 ^ D < 65536 := by have := Hlast.out; rw [← hD] at this; omega
        have hsh2 : wrap64 (2 ^ min D 64) = ((2 ^ D : Nat) : Int) := by
          rw [Nat.min_eq_left (by omega), show ((2 : Int) ^ D) = ((2 ^ D : Nat) : Int) by simp]
          generalize 2 ^ D = q at *
          unfold wrap64; omega
        have hR3 := roomL_take Hlk.out
        rw [← HR.out, ← hD] at hR3
        have HR3 := veil hR3; clear hR3
        obtain ⟨Q, hQ⟩ : ∃ Q, Q = 2 ^ D := ⟨_, rfl⟩
        rw [← hQ] at hpD hR2 hsh2 HR3
        clear hQ
        have HD := veil hD
        clear hD hmD
        by_cases hk0 : k = 0
        · subst hk0
          simp only [Nat.zero_mul, Nat.add_zero] at h1 h2 h3
          go_wp2_with fail
          generalize wr.alloc (Obj.cells #[Value.int IntKind.i64 s, Value.int IntKind.i64 (n : Int), Value.int IntKind.i64 (m : Int)] 35) = W at *
          go_quiet (fail)
          go_wp2
          go_roundg (syms.length - (0 + 1))
          case rel => exact ⟨0 + 1, R + Q, rfl, by omega, by go_num, by go_num, veil HR3.out.symm, by omega, hbel2.drewN _⟩
          case measure => omega
        · obtain ⟨k1, rfl⟩ : ∃ k1, k = k1 + 1 := ⟨k - 1, by omega⟩
          obtain ⟨g2, o2, s0, n0, m0, eA, hg', hxk', h4, h5, h6⟩ := hs5.triple (k := k1) (by rw [Hwl.out]; omega)
          injection eA with eA
          injection eA with eA1 eA2
          subst eA1 eA2
          rw [← hbel.cell (by simp; omega), ← (below1 wr (Obj.cells #[Value.int IntKind.i64 s, Value.int IntKind.i64 (n : Int), Value.int IntKind.i64 (m : Int)] 35)).cell (by simp; omega)] at h5
          obtain ⟨_, hlj⟩ := mkWords_at hxk'
          have hmono := Hkr.out.mono hlj Hlk.out
          simp only at hmono
          have e4 : decide (n < n0) = false := by simpa using hmono
          have e5 : IntKind.i64.wrap ((k1 : Int) + 1 - 1) = (k1 : Int) := by rw [IntKind.wrap_i64]; omega
          have e6 : (k1 : Int) < (syms.length : Int) := by omega
          clear hxk' hlj h4 h6 hmono hk0
          go_wp2_with fail
          generalize wr.alloc (Obj.cells #[Value.int IntKind.i64 s, Value.int IntKind.i64 (n : Int), Value.int IntKind.i64 (m : Int)] 35) = W at *
          go_quiet (fail)
          go_wp2
          go_roundg (syms.length - (k1 + 1 + 1))
          case rel => exact ⟨k1 + 1 + 1, R + Q, rfl, by omega, by go_num, by go_num, veil HR3.out.symm, by omega, hbel2.drewN _⟩
          case measure => omega
      · obtain rfl : k = syms.length := by omega
        go_wp2
        go_ret
        exact ⟨ret_bool (by simp; omega), hbel1.trans (hbel.mono hbel1.size)⟩
  · have hne : (checkErr cs syms != 0) = true := by simpa using h0
    clear h0 HO
    go_wp2
    go_ret
    exact ⟨rfl, hbel1⟩
end Go.Proofs.Ythbcapjccfkldaa
