/- slices.Backward over numbers: what its iterator hands out. -/
import Derived.RangeFuncNested
import Derived.RangeFuncBound
import Derived.RangeFuncCalls
import Derived.RangeFuncLeaves
import Derived.RangeFuncBox
import Derived.Shelf.Abstract
import Derived.Shelf.RegionOpen
import Derived.WalkKit
import Derived.OwnWalkIn
import Derived.TacticsInMore
import Derived.LoopNIn
import Derived.LoopIn
import Derived.Test.YthelblkpfkngmaaMem
import Derived.Test.YthelblkpfkngmaaBestEnum
import Derived.Test.YthelblkpfkngmaaRows
namespace Go.Proofs.Ythelblkpfkngmaa
open Go.RowKit Go.Shelf
set_option linter.unusedVariables false
set_option linter.unusedSimpArgs false
attribute [local go_sem] Oper.semAt_some

/-- .. from the last one down to place r. -/
def backTo (zs : List Int) (r : Nat) : List (Int × Int) := ((enumI zs).drop r).reverse
theorem backTo_all {zs : List Int} {r : Nat} (h : zs.length ≤ r) : backTo zs r = [] := by
  unfold backTo; rw [List.drop_of_length_le (by rw [enumI_length]; exact h)]; rfl
theorem backTo_next {zs : List Int} {k : Nat} {x : Int} (h : zs[k]? = some x) : backTo zs k = backTo zs (k + 1) ++ [((k : Int), x)] := by
  unfold backTo
  obtain ⟨hk, e⟩ := List.getElem?_eq_some_iff.1 (enumI_at h)
  rw [List.drop_eq_getElem_cons hk, e, List.reverse_cons]
theorem backTo_length (zs : List Int) (r : Nat) : (backTo zs r).length = zs.length - r := by simp [backTo, enumI_length]

/-- What a round keeps: all that lay below n₀, and the iterator's box. -/
def KpB (n₀ Bs : Nat) (W W' : World) : Prop := Below n₀ W W' ∧ W'.heap[Bs]? = W.heap[Bs]?
theorem KpB.refl (n₀ Bs : Nat) (W : World) : KpB n₀ Bs W W := ⟨Below.refl _ _, rfl⟩
theorem KpB.trans {n₀ Bs : Nat} {A B C : World} (h : KpB n₀ Bs A B) (k : KpB n₀ Bs B C) : KpB n₀ Bs A C := ⟨h.1.trans k.1, k.2.trans h.2⟩
theorem KpB.put {n₀ Bs N : Nat} (hn : n₀ ≤ N) (hB : Bs < N) (W : World) (l : Nat) (o o' : Obj) (hl : N ≤ l) (ho : W.heap[l]? = some o) (h1 : o.isCells = false) (h2 : o.isWalk = false) : KpB n₀ Bs W (W.putObj l o') :=
  ⟨⟨rfl, rfl, rfl, by simp, fun k hk => World.putObj_heap_other (by omega)⟩, World.putObj_heap_other (by omega)⟩
theorem KpB.cell {n₀ Bs : Nat} {W W' : World} (h : KpB n₀ Bs W W') (i : Nat) : W'.cell? ⟨Bs, i, none⟩ = W.cell? ⟨Bs, i, none⟩ := by simp [World.cell?, h.2]

set_option maxRecDepth 100000 in
set_option maxHeartbeats 2000000 in
theorem back1_in (F : Fence) (n : Nat) (hf : F.fn 54) (hro : F.round = none) (hn : 1 ≤ n) (l Bs n₀ len cap : Nat) (A : Option Addr) (zs : List Int) (hlen : Hid (zs.length = len)) (hl : len ≤ 1048576) (J Jx : List (Int × Int) → World → Prop)
    (hY : ∀ pre x W, J pre W → pre.length < len → YieldAt F (n - 1) Try.prog l #[.int .i64 x.1, .int .i64 x.2] W fun e W' =>
      (e = .returned (.bool true) ∧ J (pre ++ [x]) W' ∧ KpB n₀ Bs W W') ∨ (e = .returned (.bool false) ∧ Jx (pre ++ [x]) W'))
    (W : World) (hBs : W.cell? ⟨Bs, 0, none⟩ = some (.slice A len cap)) (hs : Seen W n₀ A (ints .i64 zs)) (h0 : J [] W) :
    CallsIn F n Try.prog 54 #[.func (.yield l) #[] #[], .pointer (some ⟨Bs, 0, none⟩)] W fun e W' => (∃ v, e = .returned v) ∧
      ((∃ ys, ys = backTo zs 0 ∧ J ys W') ∨ (∃ pre, (∃ r, pre = backTo zs r) ∧ Jx pre W')) := by
  have hY' := veil hY; clear hY
  refine callsIn_of_wp Try.func54 rfl hf ?_ hro
  simp only [Try.ntmps54, List.size_toArray, List.length_cons, List.length_nil, Nat.reduceAdd, Nat.reduceSub, Array.replicate_succ, Array.replicate_zero, List.push_toArray, List.append_toArray, List.nil_append, List.cons_append]
  gi_wp2
  gi_loopw [3] (fun i wr => (i = .int .i64 ((len : Int) - 1) ∧ len = 0 ∧ J (backTo zs 0) wr) ∨ (∃ q : Nat, q < len ∧ i = .int .i64 (q : Int) ∧ J (backTo zs (q + 1)) wr ∧ KpB n₀ Bs W wr) ∨ (i = .int .i64 (-1) ∧ J (backTo zs 0) wr))
    (fun i _ => (intOf i + 1).toNat)
  case atStart =>
    rcases Nat.eq_zero_or_pos len with h | h
    · refine .inl ⟨rfl, h, ?_⟩
      rw [backTo_all (by rw [hlen.out, h]; omega)]; exact h0
    · refine .inr (.inl ⟨len - 1, by omega, by congr 1; omega, ?_, KpB.refl _ _ _⟩)
      rw [backTo_all (by rw [hlen.out]; omega)]; exact h0
  case round =>
    rcases hrel with ⟨rfl, hz, hJ⟩ | ⟨q, hq, rfl, hJ, hnx⟩ | ⟨rfl, hJ⟩
    · subst hz
      gi_wp2
      go_end0
      exact ⟨⟨_, rfl⟩, .inl ⟨_, rfl, hJ⟩⟩
    · obtain ⟨b, off, x, rfl, hb, hx, hc⟩ := hs.int (k := q) (by rw [hlen.out]; exact hq)
      have hcx := (hnx.1.cell (p := ⟨b, off + q, none⟩) hb).trans hc
      have hBx := (hnx.cell 0).trans hBs
      obtain ⟨fn, tmps, assign, body, hy, hR⟩ := hY'.out _ ((q : Int), x) wr hJ (by rw [backTo_length, hlen.out]; omega)
      dsimp only at hy
      have Hn := veil (backTo_next hx)
      clear hx hc
      have hqz : (q : Int) < (len : Int) := by omega
      gi_wp2
      refine hR.mono ?_
      rintro e W3 (⟨rfl, hJ3, hk3⟩ | ⟨rfl, hJx3⟩)
      · rw [← Hn.out] at hJ3
        gi_wp2
        go_roundw
        case rel =>
          rcases Nat.eq_zero_or_pos q with h | h
          · subst h; exact .inr (.inr ⟨rfl, hJ3⟩)
          · refine .inr (.inl ⟨q - 1, by omega, by congr 1; omega, ?_, hnx.trans hk3⟩)
            rw [show q - 1 + 1 = q by omega]; exact hJ3
        case measure => simp [intOf]
      · rw [← Hn.out] at hJx3
        gi_wp2
        refine bodyPost_ret (results_none rfl _ _ _) rfl ?_
        exact ⟨⟨_, rfl⟩, .inr ⟨_, ⟨q, rfl⟩, hJx3⟩⟩
    · gi_wp2
      go_end0
      exact ⟨⟨_, rfl⟩, .inl ⟨_, rfl, hJ⟩⟩
set_option maxHeartbeats 1000000 in
theorem back_in (F : Fence) (n : Nat) (hf : F.fn 44) (hro : F.round = none) (a : Option Addr) (len cap : Nat) (w : World) :
    CallsIn F n Try.prog 44 #[.slice a len cap] w fun e w' => e = .returned (.func (.func 54) #[] #[.pointer (some ⟨w.heap.size, 0, none⟩)]) ∧ w' = w.alloc (.cells #[.slice a len cap] 23) := by
  refine callsIn_of_wp Try.func44 rfl hf ?_ hro
  simp only [Try.ntmps44, List.size_toArray, List.length_cons, List.length_nil, Nat.reduceAdd, Nat.reduceSub, Array.replicate_succ, Array.replicate_zero, List.push_toArray, List.append_toArray, List.nil_append, List.cons_append]
  gi_wp2
  go_ret
  exact ⟨rfl, rfl⟩
theorem back_stops (F : Fence) (n : Nat) (hf : F.fn 54) (hro : F.round = none) (hn : 1 ≤ n) (Bs n₀ cap : Nat) (A : Option Addr) (zs : List Int) (hl : zs.length ≤ 1048576) (w : World) (hBs : Bs < w.heap.size) (hn₀ : n₀ ≤ w.heap.size)
    (hc : w.cell? ⟨Bs, 0, none⟩ = some (.slice A zs.length cap)) (hs : Seen w n₀ A (ints .i64 zs)) :
    SeqStopsK F n Try.prog 54 #[.pointer (some ⟨Bs, 0, none⟩)] (fun x : Int × Int => #[Value.int .i64 x.1, Value.int .i64 x.2]) (KpB n₀ Bs) (fun ys => ys = backTo zs 0) (fun pre => ∃ r, pre = backTo zs r) zs.length w := fun l J Jx W hW _ _ hY h0 =>
  back1_in F n hf hro hn l Bs n₀ zs.length cap A zs rfl hl J Jx hY W ((hW.cell (p := ⟨Bs, 0, none⟩) hBs).trans hc) (hs.below hW hn₀) h0
end Go.Proofs.Ythelblkpfkngmaa
