/- stuff.Split: its contract. -/
import Derived.Test.YtnddlehhgholhaaStuffPlain
namespace Go.Proofs.Ytnddlehhgholhaa
open Go.RowKit
set_option linter.unusedVariables false
set_option linter.unusedSimpArgs false

theorem elem_int : ElemOf Try.prog 30 3 1 8 := .mk' (z := .int .i64 0) Try.underlying30 (by kernel_rfl) rfl (by omega)
theorem elem_bytes : ElemOf Try.prog 29 22 1 24 := .mk' (z := .slice none 0 0) Try.underlying29 (by kernel_rfl) rfl (by omega)
/-- A row of slices. -/
abbrev pileRow (v : Value) (vs : List Value) : Row := ⟨22, 1, v, vs.length, vs⟩
abbrev numRow (v : Value) (l : List Int) : Row := intRow 3 .i64 v l
theorem pile_snoc (v : Value) (vs : List Value) (u : Value) : (⟨22, 1, v, vs.length + [u].length, vs ++ [u]⟩ : Row) = pileRow v (vs ++ [u]) := by simp [pileRow]
theorem zip_snoc {vs : List Value} {ps : List (List Int)} (h : vs.length = ps.length) (u : Value) (p : List Int) : List.zipWith byteRow (vs ++ [u]) (ps ++ [p]) = List.zipWith byteRow vs ps ++ [byteRow u p] := by
  rw [List.zipWith_append h]; rfl
/-- A piece is done; the next one begins. -/
theorem Owns.next {B : Nat} {w : World} {v m u : Value} {vs : List Value} {ms cur : List Int} {ps : List (List Int)} (hl : vs.length = ps.length)
    (h : Owns B (pileRow v (vs ++ [u]) :: numRow m ms :: byteRow u cur :: List.zipWith byteRow vs ps) w) :
    Owns B (pileRow v (vs ++ [u]) :: numRow m ms :: byteRow (.slice none 0 0) [] :: List.zipWith byteRow (vs ++ [u]) (ps ++ [cur])) w := by
  rw [zip_snoc hl]
  refine (h.fresh 5 1).toThird.perm (.cons _ (.cons _ (.cons _ ?_)))
  exact (List.perm_append_comm (l₁ := [byteRow u cur]) (l₂ := List.zipWith byteRow vs ps))
theorem Owns.finish {B : Nat} {w : World} {v m u : Value} {vs : List Value} {ms cur : List Int} {ps : List (List Int)} (hl : vs.length = ps.length)
    (h : Owns B (pileRow v (vs ++ [u]) :: numRow m ms :: byteRow u cur :: List.zipWith byteRow vs ps) w) :
    Owns B (pileRow v (vs ++ [u]) :: numRow m ms :: List.zipWith byteRow (vs ++ [u]) (ps ++ [cur])) w := by
  have h2 := (h.next hl).third.tail
  exact h2

set_option maxHeartbeats 2000000 in
theorem split_any (A : Option Addr) (c G : Nat) (bs : List Int) (w : World) (hb : Seen w G A (ints .u8 bs)) (hG : G ≤ w.heap.size) (hl : bs.length ≤ 1099511627776) (hby : ∀ x ∈ bs, 0 ≤ x ∧ x ≤ 255) :
    Calls Try.prog 15 #[.slice A bs.length c] w fun e w' => ∃ vs v m, e = .returned (.tuple #[v, m, .int .i64 (splitErr bs)]) ∧ vs.length = (splitP bs).length ∧
      Owns w.heap.size (pileRow v vs :: numRow m (splitM bs) :: List.zipWith byteRow vs (splitP bs)) w' ∧ Below w.heap.size w w' := by
  have Hby := veil hby; clear hby
  go_enter Try.func15, Try.ntmps15
  go_wp2_with fail
  go_loopg [5, 6, 7, 8] bs.length (fun gk v m u i wr => ∃ (k : Nat) (ps : List (List Int)) (ms cur : List Int) (vs : List Value), gk = bs.length - k ∧ k ≤ bs.length ∧ i = .int .i64 k ∧ Hid (SInv bs k ps ms cur) ∧ vs.length = ps.length ∧ vs.length ≤ k ∧ ms.length ≤ k ∧ cur.length ≤ k ∧
    Owns w.heap.size (pileRow v vs :: numRow m ms :: byteRow u cur :: List.zipWith byteRow vs ps) wr ∧ Below w.heap.size w wr)
  case atStart => exact ⟨0, [], [], [], [], rfl, Nat.zero_le _, rfl, veil (SInv.start bs), rfl, Nat.zero_le _, Nat.zero_le _, Nat.zero_le _, (((Owns.start w).fresh _ _).fresh _ _).fresh _ _, Below.refl _ _⟩
  case round =>
    obtain ⟨k, ps, ms, cur, vs, rfl, hk, rfl, HI, hvp, hvk, hmk, hck, HO, hbel⟩ := hrel
    have hB := hbel.size
    by_cases hlt : k < bs.length
    · obtain ⟨g, o, x, rfl, hg, hx, h1⟩ := hb.int hlt
      have Hx := veil hx; clear hx
      rw [← hbel.cell (by simp; omega)] at h1
      by_cases h255 : x = 255
      · subst h255
        by_cases hlast : k + 1 = bs.length
        · have hpn := HI.out.last Hx.out hlast
          obtain ⟨hp1, hp2, hp3⟩ := split_none hpn
          have Hp := veil hp1; have Hm := veil hp2; have He := veil hp3
          have hlast' : (k : Int) + 1 = (bs.length : Int) := by omega
          clear hpn hp1 hp2 hp3
          go_wp2
          go_ret3
          exact ⟨[], _, _, ret_three rfl rfl (by rw [He.out]; rfl), by rw [Hp.out]; rfl, by rw [Hp.out, Hm.out]; exact ((Owns.nil hbel.size).fresh _ _).fresh _ _, hbel⟩
        · obtain ⟨g2, o2, y, e2, hg2, hy, h2⟩ := hb.int (k := k + 1) (by omega)
          injection e2 with e2
          injection e2 with e3 e4
          subst e3 e4
          have hyb := Hby.out y (List.mem_of_getElem? hy)
          have Hy := veil hy; clear hy
          rw [← hbel.cell (by simp; omega)] at h2
          have hne : ¬ ((k : Int) + 1 = (bs.length : Int)) := by omega
          have hlt2 : (k : Int) + 1 < (bs.length : Int) := by omega
          by_cases hy255 : y = 255
          · subst hy255
            have hpn := HI.out.two Hx.out Hy.out
            obtain ⟨hp1, hp2, hp3⟩ := split_none hpn
            have Hp := veil hp1; have Hm := veil hp2; have He := veil hp3
            clear hpn hp1 hp2 hp3
            go_wp2
            go_ret3
            exact ⟨[], _, _, ret_three rfl rfl (by rw [He.out]; rfl), by rw [Hp.out]; rfl, by rw [Hp.out, Hm.out]; exact ((Owns.nil hbel.size).fresh _ _).fresh _ _, hbel⟩
          · by_cases hy0 : y = 0
            · subst hy0
              go_wp2_with (at_builtin; go_loud (refine wpList_ownI _ rfl (.tmp 45) (.tmp 46) _ rfl w.heap.size 5 .u8 1 elem_byte u7 cur (pileRow u5 vs :: numRow u6 ms :: List.zipWith byteRow vs ps) rfl HO.third [255, 0] rfl (by unfold maxLen; simp; omega) (by simp; omega) ?_); intro v1 w1 HO1 hb1 hz1)
              go_roundg (bs.length - (k + 2))
              case rel => exact ⟨k + 2, ps, ms, cur ++ [255, 0], vs, rfl, by omega, by go_num, veil (HI.out.pad Hx.out Hy.out), hvp, by omega, by omega, by simp; omega, HO1.toThird, hbel.trans hb1⟩
              case measure => omega
            · have hn1 : (y == 255) = false := by simpa using hy255
              have hn2 : (y == 0) = false := by simpa using hy0
              have H1 := veil hy255; have H2 := veil hy0
              clear hy255 hy0
              obtain ⟨A7, c7, e7, _, _, _⟩ := HO.third.seen (List.mem_cons_self ..)
              simp only [byteRow, intRow] at e7
              subst e7
              go_wp2_with (first
                | (at_builtin; go_loud (refine wpList_ownN _ rfl (.tmp 48) (.tmp 50) _ rfl w.heap.size 22 24 elem_bytes u5 vs.length vs (numRow u6 ms :: byteRow (.slice A7 cur.length c7) cur :: List.zipWith byteRow vs ps) rfl HO [.slice A7 cur.length c7] rfl (by simp [Value.oneCell']) (by unfold maxLen; simp; omega) (by simp; omega) ?_); intro v1 w1 HO1 hb1 hz1; have h2' := h2; rw [← hb1.cell (by simp; omega)] at h2')
                | (at_builtin; go_loud (refine wpList_ownI _ rfl (.tmp 52) (.tmp 58) _ rfl w.heap.size 3 .i64 8 elem_int u6 ms (pileRow v1 (vs ++ [.slice A7 cur.length c7]) :: byteRow (.slice A7 cur.length c7) cur :: List.zipWith byteRow vs ps) rfl (by rw [← pile_snoc]; exact HO1.swap) [y] rfl (by unfold maxLen; simp; omega) (by simp; omega) ?_); intro v2 w2 HO2 hb2 hz2))
              go_roundg (bs.length - (k + 2))
              case rel => exact ⟨k + 2, ps ++ [cur], ms ++ [y], [], vs ++ [.slice A7 cur.length c7], rfl, by omega, by go_num, veil (HI.out.mark Hx.out Hy.out H1.out H2.out), by simp [hvp], by simp; omega, by simp; omega, by simp, HO2.swap.next hvp, (hbel.trans hb1).trans hb2⟩
              case measure => omega
      · have hxb : (x != 255) = true := by simpa using h255
        have H255 := veil h255; clear h255
        go_wp2_with (at_builtin; go_loud (refine wpList_ownI _ rfl (.tmp 20) (.tmp 25) _ rfl w.heap.size 5 .u8 1 elem_byte u7 cur (pileRow u5 vs :: numRow u6 ms :: List.zipWith byteRow vs ps) rfl HO.third [x] rfl (by unfold maxLen; simp; omega) (by simp; omega) ?_); intro v1 w1 HO1 hb1 hz1)
        go_roundg (bs.length - (k + 1))
        case rel => exact ⟨k + 1, ps, ms, cur ++ [x], vs, rfl, by omega, by go_num, veil (HI.out.other Hx.out H255.out), hvp, by omega, by omega, by simp; omega, HO1.toThird, hbel.trans hb1⟩
        case measure => omega
    · obtain rfl : k = bs.length := by omega
      obtain ⟨hp1, hp2, hp3⟩ := split_some HI.out.done
      have Hp := veil hp1; have Hm := veil hp2; have He := veil hp3
      clear hp1 hp2 hp3
      obtain ⟨A7, c7, e7, _, _, _⟩ := HO.third.seen (List.mem_cons_self ..)
      simp only [byteRow, intRow] at e7
      subst e7
      go_wp2_with (at_builtin; go_loud (refine wpList_ownN _ rfl (.tmp 60) (.tmp 62) _ rfl w.heap.size 22 24 elem_bytes u5 vs.length vs (numRow u6 ms :: byteRow (.slice A7 cur.length c7) cur :: List.zipWith byteRow vs ps) rfl HO [.slice A7 cur.length c7] rfl (by simp [Value.oneCell']) (by unfold maxLen; simp; omega) (by simp; omega) ?_); intro v1 w1 HO1 hb1 hz1)
      go_ret3
      exact ⟨vs ++ [.slice A7 cur.length c7], _, _, ret_three rfl rfl (by rw [He.out]; rfl), by rw [Hp.out]; simp [hvp], by rw [Hp.out, Hm.out]; rw [pile_snoc] at HO1; exact HO1.finish hvp, hbel.trans hb1⟩
end Go.Proofs.Ytnddlehhgholhaa
