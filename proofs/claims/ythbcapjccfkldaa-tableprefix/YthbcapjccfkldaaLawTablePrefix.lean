/- TablePrefix returns true: no codeword begins another one, none is all ones. -/
import Derived.Test.YthbcapjccfkldaaTabled
import Derived.Test.YthbcapjccfkldaaTabPre
namespace Go.Proofs.Ythbcapjccfkldaa
open Go.RowKit
set_option linter.unusedVariables false
set_option linter.unusedSimpArgs false

theorem not_ones {R : Nat} {l : List (Nat × Nat)} (h : Kr R l) {p : Nat × Nat} (hp : p ∈ l) : ((p.2 : Int) == wrap64 (wrap64 (2 ^ p.1) - 1)) = false := by
  have h1 := h.small hp
  have h2 := h.ge p hp
  have h3 : 2 ^ p.1 ≤ 2 ^ 16 := Nat.pow_le_pow_right (by omega) h2.2.1
  have h4 : ((2 : Int) ^ p.1) = ((2 ^ p.1 : Nat) : Int) := by simp
  rw [h4]
  simp only [beq_eq_false_iff_ne]
  unfold wrap64
  omega
theorem mkWords_at {syms : List Int} {l : List (Nat × Nat)} {k : Nat} {t : Int × Nat × Nat} (h : (mkWords syms l)[k]? = some t) : syms[k]? = some t.1 ∧ l[k]? = some t.2 := by
  unfold mkWords at h
  rw [List.getElem?_zipWith] at h
  cases h1 : syms[k]? with
  | none => simp [h1] at h
  | some s =>
    cases h2 : l[k]? with
    | none => simp [h1, h2] at h
    | some p => simp [h1, h2] at h; subst h; exact ⟨rfl, rfl⟩
theorem prefix_no {R : Nat} {l : List (Nat × Nat)} (h : Kr R l) {i k : Nat} {p q : Nat × Nat} (hp : l[i]? = some p) (hq : l[k]? = some q) (hne : i ≠ k) (hle : p.1 ≤ q.1) : ((q.2 : Int) / 2 ^ (q.1 - p.1) == (p.2 : Int)) = false := by
  have h1 := h.noFront hp hq hne hle
  have h2 : (q.2 : Int) / 2 ^ (q.1 - p.1) = ((q.2 / 2 ^ (q.1 - p.1) : Nat) : Int) := by simp
  rw [h2]
  simp only [beq_eq_false_iff_ne]
  omega

set_option maxRecDepth 100000 in
set_option maxHeartbeats 4000000 in
theorem tablePrefix_walk (cs : List Int) (A : Option Addr) (c : Nat) (syms : List Int) (w : World) (hcs : cs.length = 16) (hb : ∀ x ∈ cs, -9223372036854775808 ≤ x ∧ x ≤ 9223372036854775807) (hs : Seen w w.heap.size A (ints .i64 syms)) (hwf : ∀ x ∈ syms, (Lit.int .i64 x).wf = true) (hn : syms.length ≤ maxLen) :
    Calls Try.prog 7 #[tabV cs A syms.length c] w fun e w' => e = .returned (.bool true) ∧ Below w.heap.size w w' := by
  have h16 : (tabCells cs A syms.length c)[16]? = some (.slice A syms.length c) := tabCells_last hcs
  have hlen17 : (tabCells cs A syms.length c).length = 17 := tabCells_length hcs
  have hck := fun w1 h1 hG1 => words_any cs syms A c w.heap.size w1 hcs hn hb h1 hG1
  have Hcs := veil hcs
  clear hcs hb hwf
  unfold maxLen at hn
  obtain ⟨ys, hys⟩ : ∃ ys, ys = tabCells cs A syms.length c := ⟨_, rfl⟩
  have Hr := veil (range_new w ys 25)
  unfold tabV at hck ⊢
  rw [← hys] at hlen17 hck h16 ⊢
  clear hys
  have Hck := veil hck; clear hck
  have H17 := veil hlen17; clear hlen17
  go_enter Try.func7, Try.ntmps7
  go_wp2_with fail
  refine (tabled_any _).mono ?_
  rintro e w0 ⟨rfl, hb0⟩
  have hr0 : w0.rangeAt w.heap.size 0 ys := range_below Hr.out hb0 (by simp)
  have Hr0 := veil hr0
  have c16 : w0.cell? ⟨w.heap.size, 16, none⟩ = some (.slice A syms.length c) := by rw [hb0.cell (by simp), World.cell?_alloc_at _ _ _ _ rfl]; simpa using h16
  have hbel0 : Below w.heap.size w w0 := (below1 _ _).trans (hb0.mono (by simp))
  have hz0 := hb0.size
  simp at hz0
  clear Hr hr0 hb0 h16
  go_wp2_with (first
    | (refine wpList_load_mid rfl 25 (.tmp 1) rfl w.heap.size 0 rfl ys _ Hr0.out Try.underlying25 rfl (by rw [H17.out]; exact info_tab) ?_)
    | fail)
  refine (Hck.out _ (hs.below hbel0 (Nat.le_refl _)) (by omega)).mono ?_
  rintro e w1 ⟨v, rfl, HO, hb1⟩
  have hbel1 : Below w.heap.size w w1 := hbel0.trans (hb1.mono (by omega))
  have hz1 := hb1.size
  rw [← hb1.cell (by simp; omega)] at c16
  clear Hr0 hb1 Hck
  by_cases h0 : checkErr cs syms = 0
  · obtain ⟨l, hf, how, hll⟩ := fine_of h0
    have h256 := hf.good.le
    rw [how] at HO
    have hwl : (mkWords syms l).length = syms.length := by rw [mkWords_length _ _ (by omega), hll]
    obtain ⟨A5, c5, e5, hs5, _, _⟩ := HO.seen (List.mem_cons_self ..)
    simp only [wordRow] at e5 hs5
    rw [hwl] at e5
    subst e5
    have hkr := hf.kr Hcs.out
    have Hkr := veil hkr; have Hwl := veil hwl
    rw [h0]
    clear hkr hwl hll hf how HO h0
    go_wp2_with fail
    go_loopg [5, 6, 7, 8, 23] syms.length (fun gk i0 p0 k0 q0 i wr => ∃ k : Nat, gk = syms.length - k ∧ k ≤ syms.length ∧ i = .int .i64 k ∧ Below w1.heap.size w1 wr)
    case atStart => exact ⟨0, rfl, Nat.zero_le _, rfl, Below.refl _ _⟩
    case round =>
      obtain ⟨k, rfl, hk, rfl, hbel⟩ := hrel
      have hz := hbel.size
      by_cases hlt : k < syms.length
      · obtain ⟨g, o, s, n, m, rfl, hg, hxk, h1, h2, h3⟩ := hs5.triple (k := k) (by rw [Hwl.out]; exact hlt)
        rw [← hbel.cell (by simp; omega)] at h1 h2 h3
        obtain ⟨_, hlk⟩ := mkWords_at hxk
        have hno := not_ones Hkr.out (List.mem_of_getElem? hlk)
        have hnm := Hkr.out.ge _ (List.mem_of_getElem? hlk)
        have hn16 : n ≤ 16 := hnm.2.1
        simp only at hno
        have Hlk := veil hlk
        clear hxk hlk hnm
        have hbel2 := hbel.trans ((below1 wr (Obj.cells #[Value.int IntKind.i64 s, Value.int IntKind.i64 (n : Int), Value.int IntKind.i64 (m : Int)] 35)).mono hz)
        have d1 : (wr.alloc (Obj.cells #[Value.int IntKind.i64 s, Value.int IntKind.i64 (n : Int), Value.int IntKind.i64 (m : Int)] 35)).cell? ⟨wr.heap.size, 1, none⟩ = some (.int .i64 (n : Int)) := by simp
        have d2 : (wr.alloc (Obj.cells #[Value.int IntKind.i64 s, Value.int IntKind.i64 (n : Int), Value.int IntKind.i64 (m : Int)] 35)).cell? ⟨wr.heap.size, 2, none⟩ = some (.int .i64 (m : Int)) := by simp
        have hsz : wr.heap.size < (wr.alloc (Obj.cells #[Value.int IntKind.i64 s, Value.int IntKind.i64 (n : Int), Value.int IntKind.i64 (m : Int)] 35)).heap.size := by simp
        go_wp2_with fail
        generalize wr.alloc (Obj.cells #[Value.int IntKind.i64 s, Value.int IntKind.i64 (n : Int), Value.int IntKind.i64 (m : Int)] 35) = W at *
        clear h1 h2 h3
        generalize wr.heap.size = Ba at *
        clear hbel
        go_quiet (fail)
        go_wp2_with fail
        go_loopg [7, 8, 37] syms.length (fun gk k0 q0 i wr2 => ∃ j : Nat, gk = syms.length - j ∧ j ≤ syms.length ∧ i = .int .i64 j ∧ wr2.cell? ⟨Ba, 1, none⟩ = some (.int .i64 (n : Int)) ∧ wr2.cell? ⟨Ba, 2, none⟩ = some (.int .i64 (m : Int)) ∧ Below w1.heap.size w1 wr2)
        case atStart => exact ⟨0, rfl, Nat.zero_le _, rfl, by simpa using d1, by simpa using d2, hbel2.drewN _⟩
        case round =>
          clear d1 d2 hbel2 hsz
          obtain ⟨j, rfl, hj, rfl, d1, d2, hbel⟩ := hrel
          have hz2 := hbel.size
          by_cases hjt : j < syms.length
          · obtain ⟨g2, o2, s', n', m', eA, hg', hxk', h4, h5, h6⟩ := hs5.triple (k := j) (by rw [Hwl.out]; exact hjt)
            injection eA with eA
            injection eA with eA1 eA2
            subst eA1 eA2
            rw [← hbel.cell (by simp; omega)] at h4 h5 h6
            obtain ⟨_, hlj⟩ := mkWords_at hxk'
            have hn16' : n' ≤ 16 := (Hkr.out.ge _ (List.mem_of_getElem? hlj)).2.1
            have Hlj := veil hlj
            have hblk := World.block_lt_of_cell? wr _ d1
            simp only at hblk
            clear hxk' hlj
            have hbel3 := hbel.trans ((below1 wr (Obj.cells #[Value.int IntKind.i64 s', Value.int IntKind.i64 (n' : Int), Value.int IntKind.i64 (m' : Int)] 35)).mono hz2)
            have f1 : (wr.alloc (Obj.cells #[Value.int IntKind.i64 s', Value.int IntKind.i64 (n' : Int), Value.int IntKind.i64 (m' : Int)] 35)).cell? ⟨wr.heap.size, 1, none⟩ = some (.int .i64 (n' : Int)) := by simp
            have f2 : (wr.alloc (Obj.cells #[Value.int IntKind.i64 s', Value.int IntKind.i64 (n' : Int), Value.int IntKind.i64 (m' : Int)] 35)).cell? ⟨wr.heap.size, 2, none⟩ = some (.int .i64 (m' : Int)) := by simp
            rw [← (below1 wr (Obj.cells #[Value.int IntKind.i64 s', Value.int IntKind.i64 (n' : Int), Value.int IntKind.i64 (m' : Int)] 35)).cell (by exact hblk)] at d1 d2
            by_cases hij : k = j
            · have hd : ((k : Int) != (j : Int)) = false := by simp [hij]
              clear hij
              go_wp2_with fail
              generalize wr.alloc (Obj.cells #[Value.int IntKind.i64 s', Value.int IntKind.i64 (n' : Int), Value.int IntKind.i64 (m' : Int)] 35) = W2 at *
              go_quiet (fail)
              go_wp2
              go_roundg (syms.length - (j + 1))
              case rel => exact ⟨j + 1, rfl, by omega, by go_num, by simpa using d1, by simpa using d2, hbel3.drewN _⟩
              case measure => omega
            · have hd : ((k : Int) != (j : Int)) = true := by simp; omega
              by_cases hnn : n ≤ n'
              · have hd2 : decide ((n : Int) ≤ (n' : Int)) = true := by simp; omega
                have hp := prefix_no Hkr.out Hlk.out Hlj.out hij hnn
                simp only at hp
                have Hij := veil hij; clear hij
                have hsub : IntKind.i64.wrap ((n' : Int) - n) = ((n' - n : Nat) : Int) := by rw [IntKind.wrap_i64]; omega
                have hsub2 : wrap64 ((n' : Int) - n) = ((n' - n : Nat) : Int) := by unfold wrap64; omega
                have hsub3 : ((n' : Int) - n) = ((n' - n : Nat) : Int) := by omega
                go_wp2_with fail
                generalize wr.alloc (Obj.cells #[Value.int IntKind.i64 s', Value.int IntKind.i64 (n' : Int), Value.int IntKind.i64 (m' : Int)] 35) = W2 at *
                go_quiet (fail)
                go_wp2
                go_roundg (syms.length - (j + 1))
                case rel => exact ⟨j + 1, rfl, by omega, by go_num, by simpa using d1, by simpa using d2, hbel3.drewN _⟩
                case measure => omega
              · have hd2 : decide (n ≤ n') = false := by simpa using hnn
                have Hij := veil hij; clear hij hnn
                go_wp2_with fail
                generalize wr.alloc (Obj.cells #[Value.int IntKind.i64 s', Value.int IntKind.i64 (n' : Int), Value.int IntKind.i64 (m' : Int)] 35) = W2 at *
                go_quiet (fail)
                go_wp2
                go_roundg (syms.length - (j + 1))
                case rel => exact ⟨j + 1, rfl, by omega, by go_num, by simpa using d1, by simpa using d2, hbel3.drewN _⟩
                case measure => omega
          · go_wp2
            go_roundg (syms.length - (k + 1))
            case rel => exact ⟨k + 1, rfl, by omega, by go_num, hbel⟩
            case measure => omega
      · obtain rfl : k = syms.length := by omega
        rw [← hbel.cell (by simp; omega)] at c16
        go_wp2
        go_ret
        exact ⟨ret_bool (by simp), hbel1.trans (hbel.mono hbel1.size)⟩
  · have how := outWords_err h0
    rw [how] at HO
    obtain ⟨A5, c5, e5, hs5, _, _⟩ := HO.seen (List.mem_cons_self ..)
    simp only [wordRow, List.length_nil] at e5
    subst e5
    have hne : (checkErr cs syms != 0) = true := by simpa using h0
    clear h0 HO how hs5
    go_wp2
    go_ret
    exact ⟨rfl, hbel1⟩
end Go.Proofs.Ythbcapjccfkldaa
