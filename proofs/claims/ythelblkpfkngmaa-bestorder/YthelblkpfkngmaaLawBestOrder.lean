/- BestOrder returns true: what comes more often has no longer a word. -/
import Derived.Test.YthelblkpfkngmaaBested
import Derived.Test.YthelblkpfkngmaaBestMath2
namespace Go.Proofs.Ythelblkpfkngmaa
open Go.RowKit
set_option linter.unusedVariables false
set_option linter.unusedSimpArgs false

theorem zs_cell {w : World} {G : Nat} {A : Option Addr} {zs : List Int} (hz : Seen w G A (ints .i64 zs)) {s : Int} (hs : s ∈ used zs) : ∃ g o x, A = some ⟨g, o, none⟩ ∧ g < G ∧ w.cell? ⟨g, o + s.toNat, none⟩ = some (.int .i64 x) ∧ 0 ≤ s ∧ s < zs.length ∧ cntZ zs s = x.toNat ∧ 0 < x := by
  obtain ⟨k, x, rfl, h1, h2⟩ := used_mem.1 hs
  obtain ⟨g, o, y, e, hg, hy, hc⟩ := hz.int (List.getElem?_eq_some_iff.1 h1).1
  rw [h1] at hy; injection hy with hy; subst hy
  exact ⟨g, o, x, e, hg, by simpa using hc, by omega, by have := (List.getElem?_eq_some_iff.1 h1).1; omega, cntZ_at h1, h2⟩

set_option maxRecDepth 100000 in
set_option maxHeartbeats 8000000 in
theorem bestOrder_walk (A2 : Option Addr) (c2 : Nat) (zs : List Int) (w : World) (hz : Seen w w.heap.size A2 (ints .i64 zs)) (hzw : ∀ x ∈ zs, (Lit.int .i64 x).wf = true) (hzl : zs.length ≤ maxLen) :
    Calls Try.prog 6 #[.slice A2 zs.length c2] w fun e w' => e = .returned (.bool true) ∧ Below w.heap.size w w' := by
  clear hzw
  go_enter Try.func6, Try.ntmps6
  go_wp2_with fail
  refine (bested_any _).mono ?_
  rintro e w1 ⟨rfl, hbel1⟩
  have hz1 := hbel1.size
  have HM := veil (make_any A2 c2 w.heap.size zs w1 (hz.below hbel1 (Nat.le_refl _)) hz1 hzl)
  go_wp2_with fail
  refine HM.out.mono ?_
  rintro e w2 ⟨cs2, syms2, A', c', rfl, hM, HO, hb2⟩
  have hsy := MadeT.seen (zs := zs) (cs := cs2) HO
  have hbel2 : Below w.heap.size w w2 := hbel1.trans (hb2.mono hz1)
  have Hl2 := veil (tabCells_length (A := A') (n := syms2.length) (c := c') hM.len)
  have hone := tabCells_one (cs := cs2) (A := A') (n := syms2.length) (c := c')
  have hz2 := hbel2.size
  have HW := veil (fun w3 h1 h2 => words_any cs2 syms2 A' c' w2.heap.size w3 hM.len (by have := hM.short; unfold maxLen; omega) hM.bnd h1 h2)
  have Hok := veil hM.ok
  have Hlen := veil hM.len
  unfold tabV at HW ⊢
  generalize tabCells cs2 A' syms2.length c' = ys at *
  clear HM hb2 HO hM
  by_cases he : errB zs = 0
  · obtain ⟨k1, _, k3, k4, L, k5, _, k7⟩ := Hok.out he
    rw [k3] at HW
    rw [he]
    have Hwm : Hid (∀ t ∈ outWords cs2 syms2, t.1 ∈ used zs ∧ t.2.1 = L t.1) := by
      obtain ⟨l, hf, e, hl⟩ := fine_of k3
      have hm : (outWords cs2 syms2).map (·.1) = syms2 := by rw [e]; exact mkWords_fst hl
      intro t ht
      have hu : t.1 ∈ used zs := (k1 _).1 (by rw [← hm]; exact List.mem_map_of_mem ht)
      refine ⟨hu, ?_⟩
      rw [← k7 _ hu]
      unfold tabL
      rw [lenF_mem (by rw [hm]; exact hf.nodup) ht]; simp
    have HLs := veil k5
    have hwl := outWords_length k3
    have Hsm := veil (words_small Hlen.out k3)
    clear k1 k3 k4 k5 k7 Hok he
    generalize outWords cs2 syms2 = ws at *
    go_wp2_with (first
      | (refine wpList_store_tab w2 rfl (.tmp 3) (.tmp 16) rfl ys Hl2.out hone rfl rfl ?_)
      | (refine wpList_load_mid rfl 25 (.tmp 3) rfl w2.heap.size 0 rfl ys _ (range_new w2 ys 25) Try.underlying25 rfl (by rw [Hl2.out]; exact info_tab) ?_)
      | fail)
    refine (HW.out _ (hsy.alloc (Nat.le_refl _) _) (by simp)).mono ?_
    rintro e w3 ⟨v5, rfl, HO3, hb3⟩
    obtain ⟨A5, c5, e5, hs5, _, _⟩ := HO3.seen List.mem_cons_self
    simp only [wordRow] at e5 hs5
    subst e5
    have hbel3 : Below w.heap.size w w3 := (hbel2.trans ((below1 w2 _).mono hz2)).trans (hb3.mono (by simp; omega))
    have hz3 := hbel3.size
    have hzs := hz.below hbel3 (Nat.le_refl _)
    clear HO3 HW hb3
    go_wp2_with fail
    go_loopg [33] ws.length (fun gk i wr => ∃ k : Nat, gk = ws.length - k ∧ k ≤ ws.length ∧ i = .int .i64 (k : Int) ∧ Below w3.heap.size w3 wr)
    case atStart => exact ⟨0, rfl, Nat.zero_le _, rfl, Below.refl _ _⟩
    case round =>
      obtain ⟨k, rfl, hk, rfl, hbk⟩ := hrel
      by_cases hlt : k < ws.length
      · have hltz : (k : Int) < (ws.length : Int) := by omega
        obtain ⟨g, o, s, n, cd, rfl, hg, hx, h1, h2, h3⟩ := hs5.triple hlt
        rw [← hbk.cell (by simp; omega)] at h1 h2 h3
        have Hx := veil hx; clear hx
        have hzk := hbk.size
        have hgw : g < wr.heap.size := by omega
        go_wp2_with fail
        rename World => W1
        go_loopg [39] ws.length (fun gk i wr => ∃ j : Nat, gk = ws.length - j ∧ j ≤ ws.length ∧ i = .int .i64 (j : Int) ∧ Below (W1.heap.size + 1) (W1.alloc (.cells #[.int .i64 s, .int .i64 (n : Int), .int .i64 (cd : Int)] 41)) wr)
        case atStart => exact ⟨0, rfl, Nat.zero_le _, rfl, Below.refl _ _⟩
        case round =>
          clear h1 h2 h3
          obtain ⟨j, rfl, hj, rfl, hbj⟩ := hrel
          have hbW : Below w3.heap.size w3 wr := (hbk.trans ((below1 W1 _).mono hzk)).trans (hbj.mono (by omega))
          by_cases hjt : j < ws.length
          · have hjtz : (j : Int) < (ws.length : Int) := by omega
            obtain ⟨g', o', s', n', cd', e', _, hx', h1', h2', h3'⟩ := hs5.triple hjt
            injection e' with e'
            injection e' with e1 e2
            subst e1 e2
            rw [← hbW.cell (by simp; omega)] at h1' h2' h3'
            have hzj := hbj.size
            have hgj : g < wr.heap.size := by simp at hzj; omega
            have hW1j : W1.heap.size < wr.heap.size := by simp at hzj; omega
            have m0 : wr.cell? ⟨W1.heap.size, 0, none⟩ = some (.int .i64 s) := (hbj.cell (by simp)).trans (World.cell?_alloc_at _ _ _ _ rfl)
            have m1 : wr.cell? ⟨W1.heap.size, 1, none⟩ = some (.int .i64 (n : Int)) := (hbj.cell (by simp)).trans (World.cell?_alloc_at _ _ _ _ rfl)
            obtain ⟨u1, u2⟩ := Hwm.out _ (List.mem_of_getElem? Hx.out)
            obtain ⟨v1, v2⟩ := Hwm.out _ (List.mem_of_getElem? hx')
            have hsmx := Hsm.out _ (List.mem_of_getElem? Hx.out)
            have hsmy := Hsm.out _ (List.mem_of_getElem? hx')
            simp only at u1 u2 v1 v2 hsmx hsmy
            obtain ⟨gz, oz, x, rfl, hgz, cx, sx0, sx1, hcx, hx0⟩ := zs_cell (hzs.below hbW (Nat.le_trans (Nat.le_refl _) hz3)) u1
            obtain ⟨gz', oz', y, ez, _, cy, sy0, sy1, hcy, hy0⟩ := zs_cell (hzs.below hbW hz3) v1
            injection ez with ez
            injection ez with ez1 ez2
            subst ez1 ez2
            have hord : Hid (y < x → n ≤ n') := fun h => by
              rw [u2, v2]
              exact order_of HLs.out u1 v1 (by rw [hcx, hcy]; omega)
            clear hx' u1 u2 v1 v2 hcx hcy
            have hgzw : gz < wr.heap.size := by omega
            have d1 : decide ((zs.length : Int) ≤ s) = false := by simpa using sx1
            have d2 : decide ((zs.length : Int) ≤ s') = false := by simpa using sy1
            have hbN : Below (W1.heap.size + 1) (W1.alloc (.cells #[.int .i64 s, .int .i64 (n : Int), .int .i64 (cd : Int)] 41)) (wr.alloc (.cells #[.int .i64 s', .int .i64 (n' : Int), .int .i64 (cd' : Int)] 41)) := hbj.alloc (by omega) _
            by_cases hxy : y < x
            · have hnn := hord.out hxy
              have d3 : decide (y < x) = true := by simpa using hxy
              have d4 : decide ((n' : Int) < (n : Int)) = false := by simp; omega
              have d5 : decide (n' < n) = false := by simp; omega
              go_wp2_with fail
              go_quiet (fail)
              go_wp2_with fail
              go_roundg (ws.length - (j + 1))
              case rel => exact ⟨j + 1, rfl, by omega, by go_num, hbN.drewN _⟩
              case measure => omega
            · have d3 : decide (y < x) = false := by simpa using hxy
              go_wp2_with fail
              go_quiet (fail)
              go_wp2_with fail
              go_roundg (ws.length - (j + 1))
              case rel => exact ⟨j + 1, rfl, by omega, by go_num, hbN.drewN _⟩
              case measure => omega
          · have hjtz : ¬ (j : Int) < (ws.length : Int) := by omega
            go_wp2_with fail
            go_roundg (ws.length - (k + 1))
            case rel => exact ⟨k + 1, rfl, by omega, by go_num, hbW⟩
            case measure => omega
      · have hltz : ¬ (k : Int) < (ws.length : Int) := by omega
        have hbf : Below w.heap.size w wr := hbel3.trans (hbk.mono hz3)
        go_wp2
        go_ret
        exact ⟨rfl, hbf⟩
  · have hnf : (errB zs != 0) = true := by simpa using he
    clear he Hok
    generalize errB zs = E at *
    generalize outWords cs2 syms2 = ws at *
    generalize checkErr cs2 syms2 = E2 at *
    go_wp2_with (first
      | (refine wpList_store_tab w2 rfl (.tmp 3) (.tmp 16) rfl ys Hl2.out hone rfl rfl ?_)
      | (refine wpList_load_mid rfl 25 (.tmp 3) rfl w2.heap.size 0 rfl ys _ (range_new w2 ys 25) Try.underlying25 rfl (by rw [Hl2.out]; exact info_tab) ?_)
      | fail)
    refine (HW.out _ (hsy.alloc (Nat.le_refl _) _) (by simp)).mono ?_
    rintro e w3 ⟨v5, rfl, HO3, hb3⟩
    have hbel3 : Below w.heap.size w w3 := (hbel2.trans ((below1 w2 _).mono hz2)).trans (hb3.mono (by simp; omega))
    go_wp2
    go_ret
    exact ⟨rfl, hbel3⟩
end Go.Proofs.Ythelblkpfkngmaa
