/- Texts shared by the claims of this seat, in one. -/
import Derived.Test.YtddkhkpdbjjboaaBd9
import Derived.Test.YtddkhkpdbjjboaaBd4
import Derived.Test.YtddkhkpdbjjboaaBd3
import Derived.BigQuiet
import Derived.Test.YtddkhkpdbjjboaaBd2
import Derived.Test.YtddkhkpdbjjboaaBd1
import Derived.Test.YtddkhkpdbjjboaaRows
/- seg's bit reader: take, its contract. -/
namespace Go.Proofs.Ytddkhkpdbjjboaa
open Go.RowKit
set_option linter.unusedVariables false
set_option linter.unusedSimpArgs false
set_option maxRecDepth 100000

theorem grown_below2 {w w2 : World} {g : Nat} (h : Below w.heap.size w w2) {i : Nat} (x : Value) : w.grownBy (w2.setCell ⟨g, i, none⟩ x) (some g) :=
  ⟨h.os, h.tape, h.output, by have := h.size; simpa [World.setCell] using this, fun k hk hr => (Below.heap_setCell _ _ _ _ (fun e => hr (by rw [e]))).trans (h.block k hk)⟩
/-- Block g is a reader that stands at bit at_ of these bytes. -/
structure Rd (A : Option Addr) (c G g : Nat) (bs : List Int) (m1 m2 : Value) (at_ : Nat) (w : World) : Prop where
  blk : Blk w g [.slice A bs.length c, .int .i64 (at_ : Int), m1, m2] 110
  seen : Seen w G A (ints .u8 bs)
  cap : bs.length ≤ c
  max : c ≤ maxLen
  few : bs.length ≤ 140737488355328
  le : at_ ≤ 8 * bs.length
  low : G ≤ g
theorem Rd.below {A : Option Addr} {c G g B : Nat} {bs : List Int} {m1 m2 : Value} {at_ : Nat} {w w' : World} (h : Rd A c G g bs m1 m2 at_ w) (hb : Below B w w') (hg : g < B) : Rd A c G g bs m1 m2 at_ w' :=
  ⟨h.blk.below hb hg, h.seen.below hb (by have := h.low; omega), h.cap, h.max, h.few, h.le, h.low⟩
theorem Rd.kept {A : Option Addr} {c G g b : Nat} {bs : List Int} {m1 m2 : Value} {at_ : Nat} {w w' : World} (h : Rd A c G g bs m1 m2 at_ w) (hb : w.grownBy w' (some b)) (hg : g ≠ b) (hG : G ≤ b) : Rd A c G g bs m1 m2 at_ w' :=
  ⟨h.blk.kept hb (by simpa using hg), h.seen.grown hb hG (by have := h.blk.lt; have := h.low; omega), h.cap, h.max, h.few, h.le, h.low⟩
theorem read2_ok {bs : List Int} {at_ d q r : Nat} (e : at_ = 8 * q + r) (hr : r < 8) (hd : d ≤ 24) (h : at_ + d ≤ 8 * bs.length) :
    readErr (bs.drop q) [(r : Int), (d : Int)] = 0 ∧ readOut (bs.drop q) [(r : Int), (d : Int)] = [(valB ((unpack (bs.drop q)).take r) : Int), (valB (((unpack bs).drop at_).take d) : Int)] := by
  have h1 : okW (r : Int) = true := by simp [okW]; omega
  have h2 : okW (d : Int) = true := by simp [okW]; omega
  have h3 : readErr (bs.drop q) [(r : Int), (d : Int)] = 0 := by
    unfold readErr
    rw [if_neg (by simp), readE, if_pos h1, if_neg (by rw [List.length_drop]; omega), readE, if_pos h2, if_neg (by rw [List.length_drop]; omega), readE]
  refine ⟨h3, ?_⟩
  rw [readOut_ok h3, readB, readB, readB, Int.toNat_natCast, Int.toNat_natCast, unpack_drop, List.drop_drop, e]
theorem read2_short {bs : List Int} {at_ d q r : Nat} (e : at_ = 8 * q + r) (hr : r < 8) (hd : d ≤ 24) (hl : at_ ≤ 8 * bs.length) (h : 8 * bs.length < at_ + d) :
    readErr (bs.drop q) [(r : Int), (d : Int)] = 3 := by
  have h1 : okW (r : Int) = true := by simp [okW]; omega
  have h2 : okW (d : Int) = true := by simp [okW]; omega
  unfold readErr
  rw [if_neg (by simp), readE, if_pos h1, if_neg (by rw [List.length_drop]; omega), readE, if_pos h2, if_pos (by rw [List.length_drop]; omega)]
theorem own_at {w : World} {B : Nat} {e : TypeId} {v : Value} {n : Nat} {xs : List Value} (h : w.ownsRow B e 1 v n xs) (hn : 0 < n) : ∃ p c, v = .slice (some ⟨p, 0, none⟩) n c ∧ B ≤ p ∧ p < w.heap.size ∧ ∀ j u, xs[j]? = some u → w.cell? ⟨p, j, none⟩ = some u := by
  obtain ⟨h1, h2⟩ := h
  rcases h2 with ⟨rfl, rfl⟩ | ⟨g, cap, cur, rfl, hg, hh, hn2, hc, hs, ht⟩
  · omega
  · refine ⟨g, cap, rfl, hg, ?_, fun j u hu => ?_⟩
    · rcases Nat.lt_or_ge g w.heap.size with hl | hl
      · exact hl
      · rw [Array.getElem?_eq_none hl] at hh; cases hh
    · have hj : j < n * 1 := by have := (List.getElem?_eq_some_iff.1 hu).1; omega
      rw [← ht, List.getElem?_take, if_pos hj] at hu
      simp [World.cell?, hh]
      simpa using hu
set_option maxRecDepth 100000 in
set_option maxHeartbeats 2000000 in
theorem take_any (A : Option Addr) (c G g : Nat) (bs : List Int) (m1 m2 : Value) (at_ d : Nat) (w : World) (h : Rd A c G g bs m1 m2 at_ w) (hd : d ≤ 24) (hby : Bytes bs) :
    Calls Try.prog 76 #[.pointer (some ⟨g, 0, none⟩), .int .i64 (d : Int)] w fun e w' =>
      (at_ + d ≤ 8 * bs.length → e = .returned (.tuple #[.int .i64 (valB (((unpack bs).drop at_).take d) : Int), .int .i64 0]) ∧ Rd A c G g bs m1 m2 (at_ + d) w' ∧ w.grownBy w' (some g)) ∧
      (8 * bs.length < at_ + d → e = .returned (.tuple #[.int .i64 0, .int .i64 3]) ∧ Below w.heap.size w w') := by
  obtain ⟨q, r, hqr, hr8⟩ : ∃ q r, at_ = 8 * q + r ∧ r < 8 := ⟨at_ / 8, at_ % 8, by omega, by omega⟩
  have hgl := h.blk.lt
  have hle := h.le
  have hmx := h.max
  have hcp := h.cap
  have hlow := h.low
  have hfew := h.few
  unfold maxLen at hmx
  have c0 := h.blk.cell (i := 0) (v := .slice A bs.length c) rfl
  have c1 := h.blk.cell (i := 1) (v := .int .i64 (at_ : Int)) rfl
  have hq1 : (at_ : Int) / 8 = (q : Int) := by omega
  have hq2 : (at_ : Int) % 8 = (r : Int) := by omega
  have hq3 : (at_ : Int).tmod 8 = (r : Int) := by rw [Int.tmod_eq_emod_of_nonneg (by omega)]; omega
  have hql : q ≤ bs.length := by omega
  have hwq : IntKind.i64.wrap (q : Int) = (q : Int) := by rw [IntKind.wrap_i64]; omega
  have hcut := fun u => run_cutB_end A bs.length c q hql u
  obtain ⟨A', hA', hs'⟩ := cutB_drop h.seen hql hcp
  have hby' : Bytes (bs.drop q) := fun x hx => hby x (List.mem_of_mem_drop hx)
  have hrd : ∀ (W : World) (hb : Below w.heap.size w W) (A2 : Option Addr) (c2 : Nat) (h2 : Seen W W.heap.size A2 (ints .i64 [(r : Int), (d : Int)])),
      Calls Try.prog 97 #[.slice A' (bs.length - q) (c - q), .slice A2 2 c2] W fun e w' => ∃ v, e = .returned (.tuple #[v, .int .i64 (readSum (bs.drop q) [(r : Int), (d : Int)]), .int .i64 (readErr (bs.drop q) [(r : Int), (d : Int)])]) ∧ w'.ownsRow W.heap.size 3 1 v (readOut (bs.drop q) [(r : Int), (d : Int)]).length (ints .i64 (readOut (bs.drop q) [(r : Int), (d : Int)])) ∧ Below W.heap.size W w' := by
    intro W hb A2 c2 h2
    have h3 := read_any A' A2 (c - q) c2 W.heap.size (bs.drop q) [(r : Int), (d : Int)] W ((hs'.below hb (by omega)).up (by have := hb.size; omega)) hby' h2 (Nat.le_refl _) (by rw [List.length_drop]; omega) (by simp [maxLen]) (by intro x hx; simp at hx; rcases hx with rfl | rfl <;> omega)
    rw [List.length_drop] at h3
    exact h3
  have Hrd := veil hrd
  have Hby := veil hby
  have Hs := veil h.seen
  have Hblk := veil h.blk
  have Hcut := veil hcut
  have Hqr := veil hqr
  have HA := veil hA'
  clear hrd hby' hs' hcut h hA' hqr
  go_enter Try.func76, Try.ntmps76
  go_wp2_with fail
  clear c0 c1
  have hX : Blk w.drew g [.slice A bs.length c, .int .i64 (at_ : Int), m1, m2] 110 := Hblk.out
  refine wp_region_held_drew (S := fun w' => w'.cell? ⟨g, 0, none⟩ = some (.slice A bs.length c) ∧ w'.cell? ⟨g, 1, none⟩ = some (.int .i64 (at_ : Int))) (by kernel_rfl) ⟨hX.cell (i := 0) rfl, hX.cell (i := 1) rfl⟩ (fun hHeld0 => ?_)
  refine take_pure 0 10 (Value.pointer (some ⟨g, 0, none⟩)) _ rfl rfl (by kernel_rfl) (by kernel_rfl) (by kernel_rfl) (fun _ _ _ h => h) rfl (fun w' hS => by have := hS.1; have := hS.2; go_simp) hHeld0 rfl ?_
  refine take_pure 1 11 (Value.pointer (some ⟨g, 0, none⟩)) _ rfl rfl (by kernel_rfl) (by kernel_rfl) (by kernel_rfl) (fun _ _ _ h => h) rfl (fun w' hS => by have := hS.1; have := hS.2; go_simp) hHeld0 rfl ?_
  refine take_pure 2 12 (Value.pointer (some ⟨g, 0, none⟩)) _ rfl rfl (by kernel_rfl) (by kernel_rfl) (by kernel_rfl) (fun _ _ _ h => h) rfl (fun w' hS => by have := hS.1; have := hS.2; go_simp) hHeld0 rfl ?_
  refine take_pure 3 13 (Value.slice A bs.length c) _ rfl rfl (by kernel_rfl) (by kernel_rfl) (by kernel_rfl) (fun _ _ _ h => h) rfl (fun w' hS => by have := hS.1; have := hS.2; go_simp) hHeld0 rfl ?_
  refine take_pure 4 14 (Value.pointer (some ⟨g, 0, none⟩)) _ rfl rfl (by kernel_rfl) (by kernel_rfl) (by kernel_rfl) (fun _ _ _ h => h) rfl (fun w' hS => by have := hS.1; have := hS.2; go_simp) hHeld0 rfl ?_
  refine take_pure 5 15 (Value.pointer (some ⟨g, 0, none⟩)) _ rfl rfl (by kernel_rfl) (by kernel_rfl) (by kernel_rfl) (fun _ _ _ h => h) rfl (fun w' hS => by have := hS.1; have := hS.2; go_simp) hHeld0 rfl ?_
  refine take_pure 6 16 (Value.pointer (some ⟨g, 1, none⟩)) _ rfl rfl (by kernel_rfl) (by kernel_rfl) (by kernel_rfl) (fun _ _ _ h => h) rfl (fun w' hS => by have := hS.1; have := hS.2; go_simp) hHeld0 rfl ?_
  refine take_pure 7 17 (Value.int .i64 (at_ : Int)) _ rfl rfl (by kernel_rfl) (by kernel_rfl) (by kernel_rfl) (fun _ _ _ h => h) rfl (fun w' hS => by have := hS.1; have := hS.2; go_simp) hHeld0 rfl ?_
  refine take_pure 8 18 (Value.int .i64 (q : Int)) _ rfl rfl (by kernel_rfl) (by kernel_rfl) (by kernel_rfl) (fun _ _ _ h => h) rfl (fun w' hS => by have := hS.1; have := hS.2; go_simp) hHeld0 rfl ?_
  refine take_pure 9 19 (cutV A q bs.length c) _ rfl rfl (by kernel_rfl) (by kernel_rfl) (by kernel_rfl) (fun _ _ _ h => h) rfl (fun w' hS => by have := Hcut.out w'; go_simp) hHeld0 rfl ?_
  refine take_pure 10 20 (Value.pointer (some ⟨g, 0, none⟩)) _ rfl rfl (by kernel_rfl) (by kernel_rfl) (by kernel_rfl) (fun _ _ _ h => h) rfl (fun w' hS => by have := hS.1; have := hS.2; go_simp) hHeld0 rfl ?_
  refine take_pure 11 21 (Value.pointer (some ⟨g, 0, none⟩)) _ rfl rfl (by kernel_rfl) (by kernel_rfl) (by kernel_rfl) (fun _ _ _ h => h) rfl (fun w' hS => by have := hS.1; have := hS.2; go_simp) hHeld0 rfl ?_
  refine take_pure 12 22 (Value.pointer (some ⟨g, 1, none⟩)) _ rfl rfl (by kernel_rfl) (by kernel_rfl) (by kernel_rfl) (fun _ _ _ h => h) rfl (fun w' hS => by have := hS.1; have := hS.2; go_simp) hHeld0 rfl ?_
  refine take_pure 13 23 (Value.int .i64 (at_ : Int)) _ rfl rfl (by kernel_rfl) (by kernel_rfl) (by kernel_rfl) (fun _ _ _ h => h) rfl (fun w' hS => by have := hS.1; have := hS.2; go_simp) hHeld0 rfl ?_
  refine take_pure 14 24 (Value.int .i64 (r : Int)) _ rfl rfl (by kernel_rfl) (by kernel_rfl) (by kernel_rfl) (fun _ _ _ h => h) rfl (fun w' hS => by have := hS.1; have := hS.2; go_simp) hHeld0 rfl ?_
  refine take_pure 15 25 (Value.int .i64 (d : Int)) _ rfl rfl (by kernel_rfl) (by kernel_rfl) (by kernel_rfl) (fun _ _ _ h => h) rfl (fun w' hS => by have := hS.1; have := hS.2; go_simp) hHeld0 rfl ?_
  refine wpAnyH_ready (rs := [16]) (by kernel_rfl) (by simp) ?_
  refine AllReadyH.cons rfl (fun K hK => ?_) AllReadyH.nil
  go_simp
  have hbA := below1 w (.cells #[.int .i64 (r : Int), .int .i64 (d : Int)] 3)
  have hW1 : Blk (w.alloc (.cells #[.int .i64 (r : Int), .int .i64 (d : Int)] 3)).drew g [.slice A bs.length c, .int .i64 (at_ : Int), m1, m2] 110 := Hblk.out.below hbA.drew hgl
  refine hK.out _ _ ⟨hW1.cell (i := 0) rfl, hW1.cell (i := 1) rfl⟩ (fun hHeld1 => ?_)
  clear hK K hHeld0
  refine wpAnyH_ready (rs := [17]) (by kernel_rfl) (by simp) ?_
  refine AllReadyH.cons rfl (fun K hK => ?_) AllReadyH.nil
  rw [HA.out]
  go_simp
  have hzA : (w.alloc (.cells #[.int .i64 (r : Int), .int .i64 (d : Int)] 3)).drew.heap.size = w.heap.size + 1 := by show (w.alloc _).heap.size = _; simp
  refine (Hrd.out (w.alloc (.cells #[.int .i64 (r : Int), .int .i64 (d : Int)] 3)).drew hbA.drew (some ⟨w.heap.size, 0, none⟩) 2 (by rw [hzA]; exact Seen.new w (ints .i64 [(r : Int), (d : Int)]) 3 _ (Nat.lt_succ_self _))).mono ?_
  rintro e w2 ⟨v, rfl, hown, hb2⟩
  rw [hzA] at hown hb2
  have hb2' : Below w.heap.size w w2 := hbA.drew.trans (hb2.mono (by omega))
  have hW2 : Blk w2 g [.slice A bs.length c, .int .i64 (at_ : Int), m1, m2] 110 := Hblk.out.below hb2' hgl
  refine hK.out _ _ ⟨hW2.cell (i := 0) rfl, hW2.cell (i := 1) rfl⟩ (fun hHeld2 => ?_)
  clear hK K hHeld1 hW1
  have hsm : ∃ S : Int, readSum (bs.drop q) [(r : Int), (d : Int)] = S := ⟨_, rfl⟩
  obtain ⟨S, hS⟩ := hsm
  rw [hS]
  by_cases hin : at_ + d ≤ 8 * bs.length
  · obtain ⟨he, ho⟩ := read2_ok Hqr.out hr8 hd hin
    rw [ho] at hown
    rw [he]
    obtain ⟨p, c3, hv, hp, hpz, hcell⟩ := own_at hown (by simp)
    have hv' : v = .slice (some ⟨p, 0, none⟩) 2 c3 := hv
    subst hv'
    have k1 := hcell 1 (.int .i64 (valB (((unpack bs).drop at_).take d) : Int)) rfl
    have hpg : p ≠ g := by omega
    have hgr : w.grownBy (w2.setCell ⟨g, 1, none⟩ (.int .i64 ((at_ + d : Nat) : Int))) (some g) := grown_below2 hb2' _
    have hrd2 : Rd A c G g bs m1 m2 (at_ + d) (w2.setCell ⟨g, 1, none⟩ (.int .i64 ((at_ + d : Nat) : Int))) := ⟨hW2.set 1 _, Hs.out.grown hgr hlow (by omega), hcp, by unfold maxLen; omega, hfew, hin, hlow⟩
    have hw1 : IntKind.i64.wrap ((at_ : Int) + (d : Int)) = ((at_ + d : Nat) : Int) := by rw [IntKind.wrap_i64]; omega
    have k0 := hW2.cell (i := 1) (v := .int .i64 (at_ : Int)) rfl
    have hfz := hW2.frozen 1
    have HR := veil hrd2
    have HG := veil hgr
    have Hin := veil hin
    obtain ⟨X, hX⟩ : ∃ X : Nat, X = valB (((unpack bs).drop at_).take d) := ⟨_, rfl⟩
    rw [← hX] at k1
    have HX := veil hX
    clear hX
    clear hrd2 hgr hown hv ho he hcell hb2 hS hin
    refine take_pure 18 9 (Value.tuple #[Value.slice (some ⟨p, 0, none⟩) 2 c3, Value.int .i64 S, Value.int .i64 0]) _ rfl rfl (by kernel_rfl) (by kernel_rfl) (by kernel_rfl) (fun _ _ _ h => h) rfl (fun w' hS => by go_simp) hHeld2 rfl ?_
    refine take_pure 19 28 (Value.slice (some ⟨p, 0, none⟩) 2 c3) _ rfl rfl (by kernel_rfl) (by kernel_rfl) (by kernel_rfl) (fun _ _ _ h => h) rfl (fun w' hS => by go_simp) hHeld2 rfl ?_
    refine take_pure 20 29 (Value.int .i64 S) _ rfl rfl (by kernel_rfl) (by kernel_rfl) (by kernel_rfl) (fun _ _ _ h => h) rfl (fun w' hS => by go_simp) hHeld2 rfl ?_
    refine take_pure 21 30 (Value.int .i64 0) _ rfl rfl (by kernel_rfl) (by kernel_rfl) (by kernel_rfl) (fun _ _ _ h => h) rfl (fun w' hS => by go_simp) hHeld2 rfl ?_
    refine take_pure 22 6 (Value.slice (some ⟨p, 0, none⟩) 2 c3) _ rfl rfl (by kernel_rfl) (by kernel_rfl) (by kernel_rfl) (fun _ _ _ h => h) rfl (fun w' hS => by go_simp) hHeld2 rfl ?_
    refine take_pure 23 7 (Value.int .i64 S) _ rfl rfl (by kernel_rfl) (by kernel_rfl) (by kernel_rfl) (fun _ _ _ h => h) rfl (fun w' hS => by go_simp) hHeld2 rfl ?_
    refine take_pure 24 8 (Value.int .i64 0) _ rfl rfl (by kernel_rfl) (by kernel_rfl) (by kernel_rfl) (fun _ _ _ h => h) rfl (fun w' hS => by go_simp) hHeld2 rfl ?_
    refine wpAnyH_done (by kernel_rfl) ?_ _
    clear hHeld2
    go_wp2_with fail
    go_ret2
    exact ⟨fun _ => ⟨ret_two (by rw [← HX.out]; rfl) rfl, HR.out, HG.out⟩, fun hx => absurd Hin.out (by omega)⟩
  · have he := read2_short Hqr.out hr8 hd hle (by omega)
    rw [he]
    have Hin := veil hin
    clear hown hin he
    refine take_pure 18 9 (Value.tuple #[v, Value.int .i64 S, Value.int .i64 3]) _ rfl rfl (by kernel_rfl) (by kernel_rfl) (by kernel_rfl) (fun _ _ _ h => h) rfl (fun w' hS => by go_simp) hHeld2 rfl ?_
    refine take_pure 19 28 (v) _ rfl rfl (by kernel_rfl) (by kernel_rfl) (by kernel_rfl) (fun _ _ _ h => h) rfl (fun w' hS => by go_simp) hHeld2 rfl ?_
    refine take_pure 20 29 (Value.int .i64 S) _ rfl rfl (by kernel_rfl) (by kernel_rfl) (by kernel_rfl) (fun _ _ _ h => h) rfl (fun w' hS => by go_simp) hHeld2 rfl ?_
    refine take_pure 21 30 (Value.int .i64 3) _ rfl rfl (by kernel_rfl) (by kernel_rfl) (by kernel_rfl) (fun _ _ _ h => h) rfl (fun w' hS => by go_simp) hHeld2 rfl ?_
    refine take_pure 22 6 (v) _ rfl rfl (by kernel_rfl) (by kernel_rfl) (by kernel_rfl) (fun _ _ _ h => h) rfl (fun w' hS => by go_simp) hHeld2 rfl ?_
    refine take_pure 23 7 (Value.int .i64 S) _ rfl rfl (by kernel_rfl) (by kernel_rfl) (by kernel_rfl) (fun _ _ _ h => h) rfl (fun w' hS => by go_simp) hHeld2 rfl ?_
    refine take_pure 24 8 (Value.int .i64 3) _ rfl rfl (by kernel_rfl) (by kernel_rfl) (by kernel_rfl) (fun _ _ _ h => h) rfl (fun w' hS => by go_simp) hHeld2 rfl ?_
    refine wpAnyH_done (by kernel_rfl) ?_ _
    clear hHeld2
    go_wp2_with fail
    go_ret2
    exact ⟨fun hx => absurd hx Hin.out, fun _ => ⟨rfl, hb2'⟩⟩
end Go.Proofs.Ytddkhkpdbjjboaa

/- seg's token reader: symbol, its contract. -/
namespace Go.Proofs.Ytddkhkpdbjjboaa
open Go.RowKit
set_option linter.unusedVariables false
set_option linter.unusedSimpArgs false
set_option maxRecDepth 100000

theorem MapC.kept {w w' : World} {b n g : Nat} {f : Int × Int → Option Int} (h : MapC w b n f) (hg : w.grownBy w' (some g)) (hn : b ≠ g) : MapC w' b n f := by
  have hlt := h.lt
  obtain ⟨D, ⟨es, clock, h1, h2⟩, h3⟩ := h
  exact ⟨D, ⟨es, clock, by rw [hg.block b hlt (by simpa using hn)]; exact h1, h2⟩, h3⟩
theorem or_bit (V t : Nat) (hV : V < 16777216) (ht : t ≤ 1) : bits BinOp.or IntKind.i64 (wrap64 ((V : Int) * 2)) (t : Int) = ((2 * V + t : Nat) : Int) := by
  have e2 : wrap64 ((V : Int) * 2) = ((V * 2 ^ 1 : Nat) : Int) := by
    rw [show (V : Int) * 2 = ((V * 2 : Nat) : Int) by simp]; exact wrap64_nat _ (by omega)
  rw [e2, i64_or _ _ (by omega) (by omega), nat_or_low _ 1 _ (by omega)]
  omega
theorem cut_one {bs : List Int} {at_ k : Nat} (h : at_ + k < 8 * bs.length) : ∃ t : Nat, t ≤ 1 ∧ valB (((unpack bs).drop (at_ + k)).take 1) = t ∧ valB (cutB bs at_ (k + 1)) = 2 * valB (cutB bs at_ k) + t := by
  obtain ⟨x, hx⟩ := some_at (xs := unpack bs) (j := at_ + k) (by rw [unpack_length]; exact h)
  have e1 : ((unpack bs).drop (at_ + k)).take 1 = [x] := by
    obtain ⟨hk, rfl⟩ := List.getElem?_eq_some_iff.1 hx
    rw [List.drop_eq_getElem_cons hk]; rfl
  have e2 : cutB bs at_ (k + 1) = cutB bs at_ k ++ [x] := by
    unfold cutB
    exact take_snoc (by rw [List.getElem?_drop]; exact hx)
  refine ⟨x.toNat, by cases x <;> simp, ?_, ?_⟩
  · rw [e1]; cases x <;> rfl
  · rw [e2, valB_snoc]
set_option maxRecDepth 100000 in
set_option maxHeartbeats 2000000 in
theorem symbol_any (A : Option Addr) (c G g : Nat) (bs : List Int) (m1 m2 : Value) (at_ b n : Nat) (ws : List (Int × Nat × Nat)) (w : World) (h : Rd A c G g bs m1 m2 at_ w) (hby : Bytes bs) (HM : MapC w b n (codeF ws)) (hpf : PF ws) (hbg : b ≠ g) :
    Calls Try.prog 93 #[.pointer (some ⟨g, 0, none⟩), .map (some b)] w fun e w' =>
      e = .returned (.tuple #[.int .i64 (nextS ws ((unpack bs).drop at_)), .int .i64 (nextE ws ((unpack bs).drop at_))]) ∧ w.grownBy w' (some g) ∧ (nextE ws ((unpack bs).drop at_) = 0 → Rd A c G g bs m1 m2 (at_ + nextL ws ((unpack bs).drop at_)) w') := by
  have hgl := h.blk.lt
  have hle := h.le
  have hfew := h.few
  have hbl := HM.lt
  have hlen : ((unpack bs).drop at_).length = 8 * bs.length - at_ := by rw [List.length_drop, unpack_length]
  have Hlen := veil hlen; clear hlen
  have Hpf := veil hpf; clear hpf
  have HT := veil (fun (k : Nat) (W : World) (hr : Rd A c G g bs m1 m2 (at_ + k) W) => take_any A c G g bs m1 m2 (at_ + k) 1 W hr (by omega) hby)
  have hcut : ∀ k, cutB bs at_ k = ((unpack bs).drop at_).take k := fun _ => rfl
  have Hcut := veil hcut; clear hcut hby
  have HR := veil h
  have HB := Blk.new w [.int .i64 0, .int .i64 0] 78
  have hb0 := below1 w (.cells #[.int .i64 0, .int .i64 0] 78)
  have hR0 := h.below hb0 hgl
  have hM0 := HM.below hb0 hbl
  clear h HM
  go_enter Try.func93, Try.ntmps93
  go_wp2_with fail
  go_loopg [7, 8, 9, 10] 16 (fun gk i0 b0 s0 o0 wr => ∃ (k V : Nat), gk = 16 - k ∧ k ≤ 16 ∧ at_ + k ≤ 8 * bs.length ∧ Hid (V = valB (cutB bs at_ k)) ∧ Hid (∀ j : Nat, 1 ≤ j → j ≤ k → codeF ws ((j : Int), (valB (((unpack bs).drop at_).take j) : Int)) = none) ∧ Hid (Blk wr w.heap.size [.int .i64 (k : Int), .int .i64 (V : Int)] 78) ∧ Hid (Rd A c G g bs m1 m2 (at_ + k) wr) ∧ Hid (MapC wr b n (codeF ws)) ∧ w.grownBy wr (some g))
  case atStart => exact ⟨0, 0, rfl, by omega, by omega, veil rfl, veil (by intro j h1 h2; omega), veil HB, veil hR0, veil hM0, grown_below (World.grownBy.refl _ _) hb0 (Nat.le_refl _)⟩
  case round =>
    clear HB hb0 hR0 hM0
    obtain ⟨k, V, rfl, hk, hin, HV, HN, HBk, HRk, HMk, hgr⟩ := hrel
    have hz := hgr.size
    have hFz := HBk.out.lt
    have c0 := HBk.out.cell (i := 0) (v := .int .i64 (k : Int)) rfl
    by_cases hlt : k < 16
    · have hlt' : (k : Int) < 16 := by omega
      have HTk := veil (HT.out k wr HRk.out)
      by_cases hend : at_ + k = 8 * bs.length
      · have hf := Hpf.out.miss (k := k) (b := (unpack bs).drop at_) (.inr (by rw [Hlen.out]; omega)) HN.out
        have h1 : nextS ws ((unpack bs).drop at_) = 0 := by unfold nextS; rw [hf]; rfl
        have h3 : nextE ws ((unpack bs).drop at_) = 3 := by unfold nextE; rw [hf, if_neg (by simp), if_pos (by rw [Hlen.out]; omega)]
        have H1 := veil h1; have H3 := veil h3
        have Hend := veil hend
        clear h1 h3 hf hend
        go_wp2_with fail
        refine HTk.out.mono ?_
        rintro e w2 ⟨_, hsh⟩
        obtain ⟨rfl, hb2⟩ := hsh (by have := Hend.out; omega)
        go_wp2_with fail
        go_ret2
        exact ⟨ret_two (by rw [H1.out]; rfl) (by rw [H3.out]; rfl), grown_below hgr hb2 hz, fun hx => by rw [H3.out] at hx; exact absurd hx (by decide)⟩
      · have hin1 : at_ + k + 1 ≤ 8 * bs.length := by omega
        obtain ⟨t, ht, hval, hst⟩ := cut_one (bs := bs) (at_ := at_) (k := k) (by omega)
        rw [← HV.out] at hst
        obtain ⟨V', hV'⟩ : ∃ V', V' = valB (cutB bs at_ (k + 1)) := ⟨_, rfl⟩
        rw [← hV'] at hst
        have hVlt : V' < 65536 := by
          have h2 := valB_lt (cutB bs at_ (k + 1))
          rw [cutB_length _ _ _ (by omega), ← hV'] at h2
          have h3 : 2 ^ (k + 1) ≤ 2 ^ 16 := Nat.pow_le_pow_right (by omega) (by omega)
          omega
        have hor := or_bit V t (by omega) ht
        rw [← hst] at hor
        have HV' := veil hV'
        have Hval := veil hval
        have hk1 : IntKind.i64.wrap ((k : Int) + 1) = ((k + 1 : Nat) : Int) := by rw [IntKind.wrap_i64]; omega
        clear hV' hval hst hend
        go_wp2_with fail
        refine HTk.out.mono ?_
        rintro e w2 ⟨hokk, _⟩
        obtain ⟨rfl, hR2, hg2⟩ := hokk hin1
        rw [Hval.out]
        have hB2 := HBk.out.kept hg2 (by simp; omega)
        have hM2 := HMk.out.kept hg2 hbg
        have d0 := hB2.cell (i := 0) (v := .int .i64 (k : Int)) rfl
        have d1 := hB2.cell (i := 1) (v := .int .i64 (V : Int)) rfl
        have f0 := hB2.frozen 0
        have f1 := hB2.frozen 1
        have hB3 : Blk ((w2.setCell ⟨w.heap.size, 0, none⟩ (.int .i64 ((k + 1 : Nat) : Int))).setCell ⟨w.heap.size, 1, none⟩ (.int .i64 (V' : Int))) w.heap.size [.int .i64 ((k + 1 : Nat) : Int), .int .i64 (V' : Int)] 78 := (hB2.set 0 _).set 1 _
        have hg3 : w.grownBy ((w2.setCell ⟨w.heap.size, 0, none⟩ (.int .i64 ((k + 1 : Nat) : Int))).setCell ⟨w.heap.size, 1, none⟩ (.int .i64 (V' : Int))) (some g) := grown_set (grown_set (hgr.trans hg2) (Nat.le_refl _)) (Nat.le_refl _)
        have hx3 : w2.grownBy ((w2.setCell ⟨w.heap.size, 0, none⟩ (.int .i64 ((k + 1 : Nat) : Int))).setCell ⟨w.heap.size, 1, none⟩ (.int .i64 (V' : Int))) (some w.heap.size) := (grown_setCell w2 w.heap.size 0 _).trans (grown_setCell _ w.heap.size 1 _)
        have hR3 := hR2.kept hx3 (by omega) (by have := hR2.low; omega)
        have hM3 := hM2.kept hx3 (by omega)
        have HB3 := veil hB3; have HR3 := veil hR3; have HM3 := veil hM3; have HG3 := veil hg3
        clear hB2 hM2 hB3 hg3 hR3 hM3 hx3 hR2 hg2 hokk c0
        cases hq : codeF ws (((k + 1 : Nat) : Int), (V' : Int)) with
        | none =>
          have Hq := veil hq; clear hq
          go_wp2_with (first
            | (at_lookup; go_loud (refine wpList_lookC _ rfl (.tmp 35) (.tmp 36) rfl b n (codeF ws) rfl HM3.out (((k + 1 : Nat) : Int), (V' : Int)) rfl (wf_of (by omega)) (wf_of (by omega)) 0 false (by rw [Hq.out]; rfl) (by rw [Hq.out]; rfl) ?_))
            | fail)
          go_roundg (16 - (k + 1))
          case rel =>
            refine ⟨k + 1, V', rfl, by omega, by omega, HV', veil ?_, HB3, HR3, HM3, HG3.out⟩
            intro j h1 h2
            by_cases hj : j = k + 1
            · subst hj; rw [← Hcut.out, ← HV'.out]; exact Hq.out
            · exact HN.out j h1 (by omega)
          case measure => omega
        | some s =>
          have hf := Hpf.out.hit (b := (unpack bs).drop at_) (k := k + 1) (by rw [Hlen.out]; omega) (s := s) (by rw [← Hcut.out, ← HV'.out]; exact hq)
          have h11 : nextS ws ((unpack bs).drop at_) = s := by unfold nextS; rw [hf]; rfl
          have h12 : nextL ws ((unpack bs).drop at_) = k + 1 := by unfold nextL; rw [hf]; rfl
          have h13 : nextE ws ((unpack bs).drop at_) = 0 := by unfold nextE; rw [hf]; rfl
          have H1 := veil h11; have H2 := veil h12; have H3 := veil h13
          clear h11 h12 h13 hf
          have Hq := veil hq; clear hq
          go_wp2_with (first
            | (at_lookup; go_loud (refine wpList_lookC _ rfl (.tmp 35) (.tmp 36) rfl b n (codeF ws) rfl HM3.out (((k + 1 : Nat) : Int), (V' : Int)) rfl (wf_of (by omega)) (wf_of (by omega)) s true (by rw [Hq.out]; rfl) (by rw [Hq.out]; rfl) ?_))
            | fail)
          go_ret2
          exact ⟨ret_two (by rw [H1.out]; rfl) (by rw [H3.out]; rfl), HG3.out, fun _ => by rw [H2.out]; exact HR3.out⟩
    · obtain rfl : k = 16 := by omega
      have hf := Hpf.out.miss (k := 16) (b := (unpack bs).drop at_) (.inl rfl) HN.out
      have h1 : nextS ws ((unpack bs).drop at_) = 0 := by unfold nextS; rw [hf]; rfl
      have h3 : nextE ws ((unpack bs).drop at_) = 4 := by unfold nextE; rw [hf, if_neg (by simp), if_neg (by rw [Hlen.out]; omega)]
      have H1 := veil h1; have H3 := veil h3
      clear h1 h3 hf
      go_wp2_with fail
      go_ret2
      exact ⟨ret_two (by rw [H1.out]; rfl) (by rw [H3.out]; rfl), hgr, fun hx => by rw [H3.out] at hx; exact absurd hx (by decide)⟩
end Go.Proofs.Ytddkhkpdbjjboaa

/- What a source of tokens does when it is called. No program is named here. -/
namespace Go.Proofs.Ytddkhkpdbjjboaa
open Go.RowKit
set_option linter.unusedVariables false
set_option linter.unusedSimpArgs false
set_option maxRecDepth 100000

/-- What a call of a source does: an error, or a token and the source behind it. -/
def NextPost {σ : Type} (R : World → σ → Prop) (g : Nat) (w : World) : Int ⊕ ((Int × Int × Int) × σ) → Ending → World → Prop
  | .inl d, e, w' => e = .returned (.tuple #[tokV (0, 0, 0), .int .i64 d]) ∧ w.grownBy w' (some g)
  | .inr (t, s), e, w' => e = .returned (.tuple #[tokV t, .int .i64 0]) ∧ w.grownBy w' (some g) ∧ R w' s
end Go.Proofs.Ytddkhkpdbjjboaa

/- Rows of numbers. -/
namespace Go.Proofs.Ytddkhkpdbjjboaa
open Go.RowKit

theorem elem_int : ElemOf Try.prog 23 3 1 8 := .mk' (z := .int .i64 0) Try.underlying23 (by kernel_rfl) rfl (by omega)
abbrev numRow (v : Value) (l : List Int) : Row := intRow 3 .i64 v l
end Go.Proofs.Ytddkhkpdbjjboaa

/- table.Decode: its contract. -/
namespace Go.Proofs.Ytddkhkpdbjjboaa
open Go.RowKit
set_option linter.unusedVariables false
set_option linter.unusedSimpArgs false
set_option maxRecDepth 100000

/-- n symbols off a row of bits: the error, the symbols ahead of it, the bits they take. -/
def dec (ws : List (Int × Nat × Nat)) : Nat → List Bool → Int × List Int × Nat
  | 0, _ => (0, [], 0)
  | n + 1, b => if (find1 ws b).isSome = true then let r := dec ws n (b.drop (nextL ws b)); (r.1, nextS ws b :: r.2.1, nextL ws b + r.2.2) else (nextE ws b, [], 0)
theorem dec_hit {ws : List (Int × Nat × Nat)} {b : List Bool} (h : nextE ws b = 0) (n : Nat) : dec ws (n + 1) b = ((dec ws n (b.drop (nextL ws b))).1, nextS ws b :: (dec ws n (b.drop (nextL ws b))).2.1, nextL ws b + (dec ws n (b.drop (nextL ws b))).2.2) := by
  unfold nextE at h
  split at h
  · rename_i h1
    rw [dec, if_pos h1]
  · split at h <;> cases h
theorem dec_miss {ws : List (Int × Nat × Nat)} {b : List Bool} (h : nextE ws b ≠ 0) (n : Nat) : dec ws (n + 1) b = (nextE ws b, [], 0) := by
  rw [dec, if_neg]
  intro h1
  apply h
  unfold nextE
  rw [if_pos h1]
/-- What has been read, and what is to come. -/
def DInv (ws : List (Int × Nat × Nat)) (n : Nat) (b : List Bool) (k at_ : Nat) (acc : List Int) : Prop :=
  (dec ws n b).1 = (dec ws (n - k) (b.drop at_)).1 ∧ (dec ws n b).2.1 = acc ++ (dec ws (n - k) (b.drop at_)).2.1 ∧ (dec ws n b).2.2 = at_ + (dec ws (n - k) (b.drop at_)).2.2
theorem DInv.start (ws : List (Int × Nat × Nat)) (n : Nat) (b : List Bool) : DInv ws n b 0 0 [] := by simp [DInv]
theorem DInv.stop {ws : List (Int × Nat × Nat)} {n : Nat} {b : List Bool} {k at_ : Nat} {acc : List Int} (h : DInv ws n b k at_ acc) (hk : k < n) (he : nextE ws (b.drop at_) ≠ 0) : (dec ws n b).1 = nextE ws (b.drop at_) := by
  rw [h.1, show n - k = (n - (k + 1)) + 1 by omega, dec_miss he]
theorem DInv.next {ws : List (Int × Nat × Nat)} {n : Nat} {b : List Bool} {k at_ : Nat} {acc : List Int} (h : DInv ws n b k at_ acc) (hk : k < n) (he : nextE ws (b.drop at_) = 0) :
    DInv ws n b (k + 1) (at_ + nextL ws (b.drop at_)) (acc ++ [nextS ws (b.drop at_)]) := by
  unfold DInv at h ⊢
  rw [show n - k = (n - (k + 1)) + 1 by omega, dec_hit he, List.drop_drop] at h
  refine ⟨h.1, by rw [h.2.1]; simp, by rw [h.2.2]; simp only []; omega⟩
theorem DInv.done {ws : List (Int × Nat × Nat)} {n : Nat} {b : List Bool} {at_ : Nat} {acc : List Int} (h : DInv ws n b n at_ acc) : dec ws n b = (0, acc, at_) := by
  unfold DInv at h
  simp only [Nat.sub_self, dec, List.append_nil, Nat.add_zero] at h
  exact Prod.ext h.1 (Prod.ext h.2.1 h.2.2)
theorem nextL_le {ws : List (Int × Nat × Nat)} {b : List Bool} : nextL ws b ≤ b.length := by
  unfold nextL
  cases h : find1 ws b with
  | none => simp
  | some p =>
    obtain ⟨s, n⟩ := p
    obtain ⟨t, _, _, e, h1⟩ := find1_mem h
    have := h1.length_le
    rw [bitsN_length] at this
    simp; omega
theorem nextS_wf {ws : List (Int × Nat × Nat)} {b : List Bool} (h : ∀ t ∈ ws, 0 ≤ t.1 ∧ t.1 ≤ 255) : 0 ≤ nextS ws b ∧ nextS ws b ≤ 255 := by
  unfold nextS
  cases hq : find1 ws b with
  | none => simp
  | some p =>
    obtain ⟨s, n⟩ := p
    obtain ⟨t, ht, e, _⟩ := find1_mem hq
    have := h t ht
    simp; omega

end Go.Proofs.Ytddkhkpdbjjboaa

/- seg's token reader: token, firstToken, restToken, their contracts. -/
namespace Go.Proofs.Ytddkhkpdbjjboaa
open Go.RowKit
set_option linter.unusedVariables false
set_option linter.unusedSimpArgs false
set_option maxRecDepth 100000

theorem info_tok3 : (Try.prog.info? 76).map (·.size) = some 3 := by kernel_rfl
abbrev tokL (t : Int × Int × Int) : List Value := [.int .i64 t.1, .int .i64 t.2.1, .int .i64 t.2.2]
theorem tokL_one (t : Int × Int × Int) : ∀ u ∈ tokL t, u.oneCell' = true := by intro u hu; simp at hu; rcases hu with rfl | rfl | rfl <;> rfl
set_option maxRecDepth 100000 in
set_option maxHeartbeats 2000000 in
theorem segToken_any (A : Option Addr) (c G g : Nat) (bs : List Int) (m1 m2 : Value) (at_ d : Nat) (S : Int) (w : World) (h : Rd A c G g bs m1 m2 at_ w) (hd : d ≤ 24) (hby : Bytes bs) :
    Calls Try.prog 94 #[.pointer (some ⟨g, 0, none⟩), .int .i64 S, .int .i64 (d : Int)] w fun e w' =>
      (at_ + d ≤ 8 * bs.length → e = .returned (.tuple #[tokV (S, (d : Int), (valB (((unpack bs).drop at_).take d) : Int)), .int .i64 0]) ∧ Rd A c G g bs m1 m2 (at_ + d) w' ∧ w.grownBy w' (some g)) ∧
      (8 * bs.length < at_ + d → e = .returned (.tuple #[tokV (0, 0, 0), .int .i64 3]) ∧ w.grownBy w' (some g)) := by
  have hgl := h.blk.lt
  have hb0 := below1 w (.cells (tokL (0, 0, 0)).toArray 76)
  have HB := Blk.new w (tokL (0, 0, 0)) 76
  have hz0 : (w.alloc (.cells (tokL (0, 0, 0)).toArray 76)).heap.size = w.heap.size + 1 := by simp
  have HT := veil (take_any A c G g bs m1 m2 at_ d _ (h.below hb0 hgl) hd hby)
  clear h
  go_enter Try.func94, Try.ntmps94
  go_wp2_with fail
  refine HT.out.mono ?_
  rintro e w2 ⟨hok, hsh⟩
  by_cases hin : at_ + d ≤ 8 * bs.length
  · obtain ⟨rfl, hR, hg⟩ := hok hin
    have hB2 := HB.kept hg (by simp; omega)
    have hg2 : w.grownBy w2 (some g) := (grown_below (World.grownBy.refl w _) hb0 (Nat.le_refl _)).trans hg
    have HR := veil hR
    have Hin := veil hin
    obtain ⟨X, hX⟩ : ∃ X : Nat, X = valB (((unpack bs).drop at_).take d) := ⟨_, rfl⟩
    rw [← hX]
    have HX := veil hX
    have hone := tokL_one (S, (d : Int), (X : Int))
    clear hR hok hsh HT hin hX hb0 HB hg
    go_wp2_with (first
      | (refine wpList_store_blk w2 rfl 76 (.tmp 6) (.tmp 25) rfl w.heap.size (tokL (0, 0, 0)) (tokL (S, (d : Int), (X : Int))) 76 hB2 rfl rfl info_tok3 rfl hone ?_; intro w5 HB7 hg7)
      | fail)
    refine bodyPost_ret (results_row_tmp rfl _ _ w.heap.size 76 (tokL (S, (d : Int), (X : Int))).toArray (0, 0) _ (.int .i64 0) rfl rfl HB7 Try.underlying76 rfl (by simp only [List.size_toArray]; exact info_tok3)) rfl ⟨fun _ => ⟨?_, HR.out.kept hg7 (by omega) (by have := HR.out.low; omega), grown_grown hg2 hg7 (Nat.le_refl _)⟩, fun hx => absurd Hin.out (by omega)⟩
    rw [← HX.out]; rfl
  · obtain ⟨rfl, hb2⟩ := hsh (by omega)
    have hB2 := HB.below hb2 (by omega)
    have hg2 : w.grownBy w2 (some g) := grown_below (grown_below (World.grownBy.refl w _) hb0 (Nat.le_refl _)) hb2 (by omega)
    have Hin := veil hin
    have hone := tokL_one (0, 0, 0)
    clear hok hsh HT hin hb0 HB hb2
    go_wp2_with (first
      | (refine wpList_store_blk w2 rfl 76 (.tmp 6) (.tmp 20) rfl w.heap.size (tokL (0, 0, 0)) (tokL (0, 0, 0)) 76 hB2 rfl rfl info_tok3 rfl hone ?_; intro w5 HB7 hg7)
      | fail)
    exact bodyPost_ret (results_row_tmp rfl _ _ w.heap.size 76 (tokL (0, 0, 0)).toArray (0, 0) _ (.int .i64 3) rfl rfl HB7 Try.underlying76 rfl (by simp only [List.size_toArray]; exact info_tok3)) rfl ⟨fun hx => absurd hx Hin.out, fun _ => ⟨rfl, grown_grown hg2 hg7 (Nat.le_refl _)⟩⟩
/-- The reader of tokens stands before these bits. -/
def TR (A : Option Addr) (c G g : Nat) (bs : List Int) (b1 n1 : Nat) (fw : List (Int × Nat × Nat)) (b2 n2 : Nat) (rw_ : List (Int × Nat × Nat)) (w : World) (s : List Bool) : Prop :=
  ∃ at_, Rd A c G g bs (.map (some b1)) (.map (some b2)) at_ w ∧ MapC w b1 n1 (codeF fw) ∧ MapC w b2 n2 (codeF rw_) ∧ b1 ≠ g ∧ b2 ≠ g ∧ s = (unpack bs).drop at_
theorem TR.below {A : Option Addr} {c G g B : Nat} {bs : List Int} {b1 n1 : Nat} {fw : List (Int × Nat × Nat)} {b2 n2 : Nat} {rw_ : List (Int × Nat × Nat)} {w w' : World} {s : List Bool} (h : TR A c G g bs b1 n1 fw b2 n2 rw_ w s) (hb : Below B w w') (hB : w.heap.size ≤ B) : TR A c G g bs b1 n1 fw b2 n2 rw_ w' s := by
  obtain ⟨at_, h1, h2, h3, h4, h5, h6⟩ := h
  exact ⟨at_, h1.below hb (by have := h1.blk.lt; omega), h2.below hb (by have := h2.lt; omega), h3.below hb (by have := h3.lt; omega), h4, h5, h6⟩
theorem TR.kept {A : Option Addr} {c G g b : Nat} {bs : List Int} {b1 n1 : Nat} {fw : List (Int × Nat × Nat)} {b2 n2 : Nat} {rw_ : List (Int × Nat × Nat)} {w w' : World} {s : List Bool} (h : TR A c G g bs b1 n1 fw b2 n2 rw_ w s) (hb : w.grownBy w' (some b)) (hg : g < b) (h1b : b1 ≠ b) (h2b : b2 ≠ b) : TR A c G g bs b1 n1 fw b2 n2 rw_ w' s := by
  obtain ⟨at_, h1, h2, h3, h4, h5, h6⟩ := h
  exact ⟨at_, h1.kept hb (by omega) (by have := h1.low; omega), h2.kept hb h1b, h3.kept hb h2b, h4, h5, h6⟩
section
variable {fw rw_ : List (Int × Nat × Nat)} {first : Bool} {s : List Bool}
theorem stepS_err (h : nextE (wsOf fw rw_ first) s ≠ 0) : stepS fw rw_ first s = .inl (nextE (wsOf fw rw_ first) s) := by unfold stepS; rw [if_pos h]
theorem stepS_wide (h : nextE (wsOf fw rw_ first) s = 0) (h2 : 12 < widS first (nextS (wsOf fw rw_ first) s) ∨ (first = false ∧ 11 < widS first (nextS (wsOf fw rw_ first) s))) : stepS fw rw_ first s = .inl 4 := by
  unfold stepS; rw [if_neg (by rw [h]; decide), if_pos h2]
theorem stepS_short {d : Nat} (h : nextE (wsOf fw rw_ first) s = 0) (hd : widS first (nextS (wsOf fw rw_ first) s) = (d : Int)) (h2 : ¬ (12 < d ∨ (first = false ∧ 11 < d))) (h3 : (s.drop (nextL (wsOf fw rw_ first) s)).length < d) : stepS fw rw_ first s = .inl 3 := by
  unfold stepS; rw [if_neg (by rw [h]; decide), hd, if_neg (by intro hx; apply h2; rcases hx with hx | ⟨hx, hy⟩; exact .inl (by omega); exact .inr ⟨hx, by omega⟩), Int.toNat_natCast, if_pos h3]
theorem stepS_ok {d : Nat} (h : nextE (wsOf fw rw_ first) s = 0) (hd : widS first (nextS (wsOf fw rw_ first) s) = (d : Int)) (h2 : ¬ (12 < d ∨ (first = false ∧ 11 < d))) (h3 : ¬ (s.drop (nextL (wsOf fw rw_ first) s)).length < d) :
    stepS fw rw_ first s = .inr ((nextS (wsOf fw rw_ first) s, (d : Int), (valB ((s.drop (nextL (wsOf fw rw_ first) s)).take d) : Int)), (s.drop (nextL (wsOf fw rw_ first) s)).drop d) := by
  unfold stepS; rw [if_neg (by rw [h]; decide), hd, if_neg (by intro hx; apply h2; rcases hx with hx | ⟨hx, hy⟩; exact .inl (by omega); exact .inr ⟨hx, by omega⟩), Int.toNat_natCast, if_neg h3]
end
end Go.Proofs.Ytddkhkpdbjjboaa

/- seg's token reader: firstToken, its contract. -/
namespace Go.Proofs.Ytddkhkpdbjjboaa
open Go.RowKit
set_option linter.unusedVariables false
set_option linter.unusedSimpArgs false
set_option maxRecDepth 100000

set_option maxRecDepth 100000 in
set_option maxHeartbeats 2000000 in
theorem firstToken_any (A : Option Addr) (c G g : Nat) (bs : List Int) (b1 n1 : Nat) (fw : List (Int × Nat × Nat)) (b2 n2 : Nat) (rw_ : List (Int × Nat × Nat)) (w : World) (s : List Bool) (h : TR A c G g bs b1 n1 fw b2 n2 rw_ w s) (hby : Bytes bs)
    (hpf : PF fw) (hsm : ∀ t ∈ fw, 0 ≤ t.1 ∧ t.1 ≤ 255) :
    Calls Try.prog 73 #[.pointer (some ⟨g, 0, none⟩)] w fun e w' => NextPost (TR A c G g bs b1 n1 fw b2 n2 rw_) g w (stepS fw rw_ true s) e w' := by
  obtain ⟨at_, hR, HM1, HM2, hb1g, hb2g, hs⟩ := h
  obtain ⟨Z, hZ⟩ : ∃ Z, Z = stepS fw rw_ true s := ⟨_, rfl⟩
  rw [← hZ]
  have HZ := veil hZ
  have hgl := hR.blk.lt
  have hle := hR.le
  have hfew := hR.few
  have hl1 := HM1.lt
  have hl2 := HM2.lt
  have hb0 := below1 w (.cells (tokL (0, 0, 0)).toArray 76)
  have HB := Blk.new w (tokL (0, 0, 0)) 76
  have hz0 : (w.alloc (.cells (tokL (0, 0, 0)).toArray 76)).heap.size = w.heap.size + 1 := by simp
  have hR0 := hR.below hb0 hgl
  have hM1 := HM1.below hb0 hl1
  have hM2 := HM2.below hb0 hl2
  have hc := hR0.blk.cell (i := 2) (v := .map (some b1)) rfl
  have HY := veil (symbol_any A c G g bs _ _ at_ b1 n1 fw _ hR0 hby hM1 hpf hb1g)
  rw [← hs] at HY
  have HT := veil (fun at2 (d : Nat) (S : Int) (W : World) (hr : Rd A c G g bs (.map (some b1)) (.map (some b2)) at2 W) (hd : d ≤ 24) => segToken_any A c G g bs _ _ at2 d S W hr hd hby)
  have hg0 : w.grownBy (w.alloc (.cells (tokL (0, 0, 0)).toArray 76)) (some g) := grown_below (World.grownBy.refl w _) hb0 (Nat.le_refl _)
  have hS := nextS_wf (b := s) hsm
  have hsl : s.length = 8 * bs.length - at_ := by rw [hs, List.length_drop, unpack_length]
  have hnl := nextL_le (ws := fw) (b := s)
  have Hs := veil hs
  have Hsl := veil hsl
  have hone0 := tokL_one (0, 0, 0)
  clear hR hR0 HM1 HM2 hb0 hsm hs hpf hsl hZ
  go_enter Try.func73, Try.ntmps73
  go_wp2_with fail
  refine HY.out.mono ?_
  rintro e w2 ⟨rfl, hg1, hRk⟩
  have hg2 : w.grownBy w2 (some g) := hg0.trans hg1
  have hB2 := HB.kept hg1 (by simp; omega)
  have hM1b := hM1.kept hg1 hb1g
  have hM2b := hM2.kept hg1 hb2g
  clear HY hM1 hM2 hg1 HB hc
  by_cases hE : nextE fw s = 0
  · have hR2 := hRk hE
    rw [hE]
    have HE := veil hE
    obtain ⟨d, hd⟩ : ∃ d : Nat, nextS fw s = (d : Int) := ⟨(nextS fw s).toNat, by omega⟩
    rw [hd]
    have Hwid : Hid (widS true (nextS (wsOf fw rw_ true) s) = (d : Int)) := hd
    have HSS : Hid ((d : Int) = nextS fw s) := hd.symm
    rw [hd] at hS
    clear hRk hE hd
    by_cases hw : 12 < d
    · have HW := veil (stepS_wide (fw := fw) (rw_ := rw_) (first := true) (s := s) HE.out (by rw [Hwid.out]; left; omega))
      have hwz : (12 : Int) < (d : Int) := by omega
      clear hw hR2
      go_wp2_with (first
        | (refine wpList_store_blk w2 rfl 76 (.tmp 2) (.tmp 21) rfl w.heap.size (tokL (0, 0, 0)) (tokL (0, 0, 0)) 76 hB2 rfl rfl info_tok3 rfl hone0 ?_; intro w5 HB7 hg7)
        | fail)
      exact bodyPost_ret (results_row_tmp rfl _ _ w.heap.size 76 (tokL (0, 0, 0)).toArray (0, 0) _ (.int .i64 4) rfl rfl HB7 Try.underlying76 rfl (by simp only [List.size_toArray]; exact info_tok3)) rfl (by rw [HZ.out, HW.out]; exact ⟨rfl, grown_grown hg2 hg7 (Nat.le_refl _)⟩)
    · have hwz : ¬ (12 : Int) < (d : Int) := by omega
      have HTd := veil (HT.out (at_ + nextL fw s) d (d : Int) w2 hR2 (by omega))
      have Hw := veil hw
      clear hw
      go_wp2_with fail
      refine HTd.out.mono ?_
      rintro e w3 ⟨hok, hsh⟩
      by_cases hin : at_ + nextL fw s + d ≤ 8 * bs.length
      · obtain ⟨rfl, hR3, hg3⟩ := hok hin
        have HO := veil (stepS_ok (fw := fw) (rw_ := rw_) (first := true) (s := s) HE.out Hwid.out (by have := Hw.out; simp; omega) (by show ¬ (s.drop (nextL fw s)).length < d; have h9 := Hsl.out; rw [List.length_drop]; omega))
        have hB3 := hB2.kept hg3 (by simp; omega)
        have hg4 : w.grownBy w3 (some g) := hg2.trans hg3
        have hM1c := hM1b.kept hg3 hb1g
        have hM2c := hM2b.kept hg3 hb2g
        have hsd : (unpack bs).drop (at_ + nextL fw s) = s.drop (nextL fw s) := by rw [Hs.out, List.drop_drop]
        rw [hsd]
        obtain ⟨X, hX⟩ : ∃ X : Nat, X = valB ((s.drop (nextL fw s)).take d) := ⟨_, rfl⟩
        rw [← hX]
        have hone := tokL_one ((d : Int), (d : Int), (X : Int))
        have HTR : Hid (∀ W, w3.grownBy W (some w.heap.size) → TR A c G g bs b1 n1 fw b2 n2 rw_ W ((s.drop (nextL fw s)).drop d)) := fun W hW => ⟨at_ + nextL fw s + d, hR3.kept hW (by omega) (by have := hR3.low; omega), hM1c.kept hW (by omega), hM2c.kept hW (by omega), hb1g, hb2g, by rw [← hsd, List.drop_drop]⟩
        have HOZ : Hid (Z = .inr (((d : Int), (d : Int), (X : Int)), (s.drop (nextL fw s)).drop d)) := by
          show _ = _
          rw [HZ.out, HO.out]; show Sum.inr ((nextS fw s, (d : Int), (valB ((s.drop (nextL fw s)).take d) : Int)), (s.drop (nextL fw s)).drop d) = _; rw [← hX, ← HSS.out]
        clear hok hsh hin hR3 hX HO hsd hg3 hg2 hM1b hM2b hB2 hM1c hM2c HT HTd hR2
        unfold tokV
        go_wp2_with (first
          | (refine wpList_store_blk w3 rfl 76 (.tmp 2) (.tmp 26) rfl w.heap.size (tokL (0, 0, 0)) (tokL ((d : Int), (d : Int), (X : Int))) 76 hB3 rfl rfl info_tok3 rfl hone ?_; intro w5 HB7 hg7)
          | fail)
        exact bodyPost_ret (results_row_tmp rfl _ _ w.heap.size 76 (tokL ((d : Int), (d : Int), (X : Int))).toArray (0, 0) _ (.int .i64 0) rfl rfl HB7 Try.underlying76 rfl (by simp only [List.size_toArray]; exact info_tok3)) rfl (by rw [HOZ.out]; exact ⟨rfl, grown_grown hg4 hg7 (Nat.le_refl _), HTR.out _ hg7⟩)
      · obtain ⟨rfl, hg3⟩ := hsh (by omega)
        have HO := veil (stepS_short (fw := fw) (rw_ := rw_) (first := true) (s := s) HE.out Hwid.out (by have := Hw.out; simp; omega) (by show (s.drop (nextL fw s)).length < d; have h9 := Hsl.out; rw [List.length_drop]; omega))
        have hB3 := hB2.kept hg3 (by simp; omega)
        have hg4 : w.grownBy w3 (some g) := hg2.trans hg3
        clear hok hsh hin hg3 hg2 hM1b hM2b hB2 HT HTd hR2
        unfold tokV
        go_wp2_with (first
          | (refine wpList_store_blk w3 rfl 76 (.tmp 2) (.tmp 26) rfl w.heap.size (tokL (0, 0, 0)) (tokL (0, 0, 0)) 76 hB3 rfl rfl info_tok3 rfl hone0 ?_; intro w5 HB7 hg7)
          | fail)
        exact bodyPost_ret (results_row_tmp rfl _ _ w.heap.size 76 (tokL (0, 0, 0)).toArray (0, 0) _ (.int .i64 3) rfl rfl HB7 Try.underlying76 rfl (by simp only [List.size_toArray]; exact info_tok3)) rfl (by rw [HZ.out, HO.out]; exact ⟨rfl, grown_grown hg4 hg7 (Nat.le_refl _)⟩)
  · have HO := veil (stepS_err (fw := fw) (rw_ := rw_) (first := true) (s := s) hE)
    have hne : (nextE fw s != 0) = true := by simpa using hE
    obtain ⟨E, hEE⟩ : ∃ E, E = nextE fw s := ⟨_, rfl⟩
    rw [← hEE] at hne ⊢
    have HEE : Hid (Z = .inl E) := by show _ = _; rw [HZ.out, HO.out, hEE]; rfl
    clear hRk hE HO hM1b hM2b HT hEE
    go_wp2_with (first
      | (refine wpList_store_blk w2 rfl 76 (.tmp 2) (.tmp 17) rfl w.heap.size (tokL (0, 0, 0)) (tokL (0, 0, 0)) 76 hB2 rfl rfl info_tok3 rfl hone0 ?_; intro w5 HB7 hg7)
      | fail)
    exact bodyPost_ret (results_row_tmp rfl _ _ w.heap.size 76 (tokL (0, 0, 0)).toArray (0, 0) _ (.int .i64 E) rfl rfl HB7 Try.underlying76 rfl (by simp only [List.size_toArray]; exact info_tok3)) rfl (by rw [HEE.out]; exact ⟨rfl, grown_grown hg2 hg7 (Nat.le_refl _)⟩)
end Go.Proofs.Ytddkhkpdbjjboaa

/- seg's token reader: restToken, its contract. -/
namespace Go.Proofs.Ytddkhkpdbjjboaa
open Go.RowKit
set_option linter.unusedVariables false
set_option linter.unusedSimpArgs false
set_option maxRecDepth 100000

set_option maxRecDepth 100000 in
set_option maxHeartbeats 2000000 in
theorem restToken_any (A : Option Addr) (c G g : Nat) (bs : List Int) (b1 n1 : Nat) (fw : List (Int × Nat × Nat)) (b2 n2 : Nat) (rw_ : List (Int × Nat × Nat)) (w : World) (s : List Bool) (h : TR A c G g bs b1 n1 fw b2 n2 rw_ w s) (hby : Bytes bs)
    (hpf : PF rw_) (hsm : ∀ t ∈ rw_, 0 ≤ t.1 ∧ t.1 ≤ 255) :
    Calls Try.prog 75 #[.pointer (some ⟨g, 0, none⟩)] w fun e w' => NextPost (TR A c G g bs b1 n1 fw b2 n2 rw_) g w (stepS fw rw_ false s) e w' := by
  obtain ⟨at_, hR, HM1, HM2, hb1g, hb2g, hs⟩ := h
  obtain ⟨Z, hZ⟩ : ∃ Z, Z = stepS fw rw_ false s := ⟨_, rfl⟩
  rw [← hZ]
  have HZ := veil hZ
  have hgl := hR.blk.lt
  have hle := hR.le
  have hfew := hR.few
  have hl1 := HM1.lt
  have hl2 := HM2.lt
  have hb0 := below1 w (.cells (tokL (0, 0, 0)).toArray 76)
  have HB := Blk.new w (tokL (0, 0, 0)) 76
  have hz0 : (w.alloc (.cells (tokL (0, 0, 0)).toArray 76)).heap.size = w.heap.size + 1 := by simp
  have hR0 := hR.below hb0 hgl
  have hM1 := HM1.below hb0 hl1
  have hM2 := HM2.below hb0 hl2
  have hc := hR0.blk.cell (i := 3) (v := .map (some b2)) rfl
  have HY := veil (symbol_any A c G g bs _ _ at_ b2 n2 rw_ _ hR0 hby hM2 hpf hb2g)
  rw [← hs] at HY
  have HT := veil (fun at2 (d : Nat) (S : Int) (W : World) (hr : Rd A c G g bs (.map (some b1)) (.map (some b2)) at2 W) (hd : d ≤ 24) => segToken_any A c G g bs _ _ at2 d S W hr hd hby)
  have hg0 : w.grownBy (w.alloc (.cells (tokL (0, 0, 0)).toArray 76)) (some g) := grown_below (World.grownBy.refl w _) hb0 (Nat.le_refl _)
  have hS := nextS_wf (b := s) hsm
  have hsl : s.length = 8 * bs.length - at_ := by rw [hs, List.length_drop, unpack_length]
  have hnl := nextL_le (ws := rw_) (b := s)
  have Hs := veil hs
  have Hsl := veil hsl
  have hone0 := tokL_one (0, 0, 0)
  clear hR hR0 HM1 HM2 hb0 hsm hs hpf hsl hZ
  go_enter Try.func75, Try.ntmps75
  go_wp2_with fail
  refine HY.out.mono ?_
  rintro e w2 ⟨rfl, hg1, hRk⟩
  have hg2 : w.grownBy w2 (some g) := hg0.trans hg1
  have hB2 := HB.kept hg1 (by simp; omega)
  have hM1b := hM1.kept hg1 hb1g
  have hM2b := hM2.kept hg1 hb2g
  clear HY hM1 hM2 hg1 HB hc
  by_cases hE : nextE rw_ s = 0
  · have hR2 := hRk hE
    rw [hE]
    have HE := veil hE
    obtain ⟨d, hd⟩ : ∃ d : Nat, nextS rw_ s % 16 = (d : Int) := ⟨(nextS rw_ s % 16).toNat, by omega⟩
    obtain ⟨S, hSS⟩ : ∃ S, S = nextS rw_ s := ⟨_, rfl⟩
    have Hwid : Hid (widS false (nextS (wsOf fw rw_ false) s) = (d : Int)) := hd
    rw [← hSS] at hS hd ⊢
    have HSS : Hid (S = nextS rw_ s) := hSS
    have hdm : S.tmod 16 = (d : Int) := by rw [Int.tmod_eq_emod_of_nonneg (by omega)]; exact hd
    clear hRk hE hSS
    by_cases hw : 11 < d
    · have HW := veil (stepS_wide (fw := fw) (rw_ := rw_) (first := false) (s := s) HE.out (by rw [Hwid.out]; right; exact ⟨rfl, by omega⟩))
      have hwz : (11 : Int) < (d : Int) := by omega
      clear hw hR2
      go_wp2_with (first
        | (refine wpList_store_blk w2 rfl 76 (.tmp 2) (.tmp 22) rfl w.heap.size (tokL (0, 0, 0)) (tokL (0, 0, 0)) 76 hB2 rfl rfl info_tok3 rfl hone0 ?_; intro w5 HB7 hg7)
        | fail)
      exact bodyPost_ret (results_row_tmp rfl _ _ w.heap.size 76 (tokL (0, 0, 0)).toArray (0, 0) _ (.int .i64 4) rfl rfl HB7 Try.underlying76 rfl (by simp only [List.size_toArray]; exact info_tok3)) rfl (by rw [HZ.out, HW.out]; exact ⟨rfl, grown_grown hg2 hg7 (Nat.le_refl _)⟩)
    · have hwz : ¬ (11 : Int) < (d : Int) := by omega
      have HTd := veil (HT.out (at_ + nextL rw_ s) d S w2 hR2 (by omega))
      have Hw := veil hw
      clear hw
      go_wp2_with fail
      refine HTd.out.mono ?_
      rintro e w3 ⟨hok, hsh⟩
      by_cases hin : at_ + nextL rw_ s + d ≤ 8 * bs.length
      · obtain ⟨rfl, hR3, hg3⟩ := hok hin
        have HO := veil (stepS_ok (fw := fw) (rw_ := rw_) (first := false) (s := s) HE.out Hwid.out (by have := Hw.out; simp; omega) (by show ¬ (s.drop (nextL rw_ s)).length < d; have h9 := Hsl.out; rw [List.length_drop]; omega))
        have hB3 := hB2.kept hg3 (by simp; omega)
        have hg4 : w.grownBy w3 (some g) := hg2.trans hg3
        have hM1c := hM1b.kept hg3 hb1g
        have hM2c := hM2b.kept hg3 hb2g
        have hsd : (unpack bs).drop (at_ + nextL rw_ s) = s.drop (nextL rw_ s) := by rw [Hs.out, List.drop_drop]
        rw [hsd]
        obtain ⟨X, hX⟩ : ∃ X : Nat, X = valB ((s.drop (nextL rw_ s)).take d) := ⟨_, rfl⟩
        rw [← hX]
        have hone := tokL_one (S, (d : Int), (X : Int))
        have HTR : Hid (∀ W, w3.grownBy W (some w.heap.size) → TR A c G g bs b1 n1 fw b2 n2 rw_ W ((s.drop (nextL rw_ s)).drop d)) := fun W hW => ⟨at_ + nextL rw_ s + d, hR3.kept hW (by omega) (by have := hR3.low; omega), hM1c.kept hW (by omega), hM2c.kept hW (by omega), hb1g, hb2g, by rw [← hsd, List.drop_drop]⟩
        have HOZ : Hid (Z = .inr ((S, (d : Int), (X : Int)), (s.drop (nextL rw_ s)).drop d)) := by
          show _ = _
          rw [HZ.out, HO.out]; show Sum.inr ((nextS rw_ s, (d : Int), (valB ((s.drop (nextL rw_ s)).take d) : Int)), (s.drop (nextL rw_ s)).drop d) = _; rw [← hX, ← HSS.out]
        clear hok hsh hin hR3 hX HO hsd hg3 hg2 hM1b hM2b hB2 hM1c hM2c HT HTd hR2
        unfold tokV
        go_wp2_with (first
          | (refine wpList_store_blk w3 rfl 76 (.tmp 2) (.tmp 28) rfl w.heap.size (tokL (0, 0, 0)) (tokL (S, (d : Int), (X : Int))) 76 hB3 rfl rfl info_tok3 rfl hone ?_; intro w5 HB7 hg7)
          | fail)
        exact bodyPost_ret (results_row_tmp rfl _ _ w.heap.size 76 (tokL (S, (d : Int), (X : Int))).toArray (0, 0) _ (.int .i64 0) rfl rfl HB7 Try.underlying76 rfl (by simp only [List.size_toArray]; exact info_tok3)) rfl (by rw [HOZ.out]; exact ⟨rfl, grown_grown hg4 hg7 (Nat.le_refl _), HTR.out _ hg7⟩)
      · obtain ⟨rfl, hg3⟩ := hsh (by omega)
        have HO := veil (stepS_short (fw := fw) (rw_ := rw_) (first := false) (s := s) HE.out Hwid.out (by have := Hw.out; simp; omega) (by show (s.drop (nextL rw_ s)).length < d; have h9 := Hsl.out; rw [List.length_drop]; omega))
        have hB3 := hB2.kept hg3 (by simp; omega)
        have hg4 : w.grownBy w3 (some g) := hg2.trans hg3
        clear hok hsh hin hg3 hg2 hM1b hM2b hB2 HT HTd hR2
        unfold tokV
        go_wp2_with (first
          | (refine wpList_store_blk w3 rfl 76 (.tmp 2) (.tmp 28) rfl w.heap.size (tokL (0, 0, 0)) (tokL (0, 0, 0)) 76 hB3 rfl rfl info_tok3 rfl hone0 ?_; intro w5 HB7 hg7)
          | fail)
        exact bodyPost_ret (results_row_tmp rfl _ _ w.heap.size 76 (tokL (0, 0, 0)).toArray (0, 0) _ (.int .i64 3) rfl rfl HB7 Try.underlying76 rfl (by simp only [List.size_toArray]; exact info_tok3)) rfl (by rw [HZ.out, HO.out]; exact ⟨rfl, grown_grown hg4 hg7 (Nat.le_refl _)⟩)
  · have HO := veil (stepS_err (fw := fw) (rw_ := rw_) (first := false) (s := s) hE)
    have hne : (nextE rw_ s != 0) = true := by simpa using hE
    obtain ⟨E, hEE⟩ : ∃ E, E = nextE rw_ s := ⟨_, rfl⟩
    rw [← hEE] at hne ⊢
    have HEE : Hid (Z = .inl E) := by show _ = _; rw [HZ.out, HO.out, hEE]; rfl
    clear hRk hE HO hM1b hM2b HT hEE
    go_wp2_with (first
      | (refine wpList_store_blk w2 rfl 76 (.tmp 2) (.tmp 17) rfl w.heap.size (tokL (0, 0, 0)) (tokL (0, 0, 0)) 76 hB2 rfl rfl info_tok3 rfl hone0 ?_; intro w5 HB7 hg7)
      | fail)
    exact bodyPost_ret (results_row_tmp rfl _ _ w.heap.size 76 (tokL (0, 0, 0)).toArray (0, 0) _ (.int .i64 E) rfl rfl HB7 Try.underlying76 rfl (by simp only [List.size_toArray]; exact info_tok3)) rfl (by rw [HEE.out]; exact ⟨rfl, grown_grown hg2 hg7 (Nat.le_refl _)⟩)
end Go.Proofs.Ytddkhkpdbjjboaa

/- A block read token by token, each looked at by Block before the next one is read: it comes to the reader over the source. No program is named here. -/
namespace Go.Proofs.Ytddkhkpdbjjboaa
set_option linter.unusedVariables false
set_option linter.unusedSimpArgs false
set_option maxRecDepth 100000

theorem decQ_shape : ∀ (l : List (Int × Int × Int)) (k : Nat), (decQ k l).1 ≠ 0 → decQ k l = ((decQ k l).1, [], 0)
  | l, 0, h => by rw [decQ_zero] at h; exact absurd rfl h
  | [], k + 1, _ => rfl
  | t :: l, k + 1, h => by
    rw [decQ] at h ⊢
    by_cases h1 : okQ t = true
    · rw [if_pos h1] at h ⊢
      by_cases h2 : t.1 = 0
      · rw [if_pos h2] at h; exact absurd rfl h
      · rw [if_neg h2] at h ⊢
        by_cases h3 : k + 1 < farT t
        · rw [if_pos h3]
        · rw [if_neg h3] at h ⊢
          simp only [] at h ⊢
          by_cases h4 : (decQ (k + 1 - farT t) l).1 = 0
          · rw [if_pos h4] at h; exact absurd rfl h
          · rw [if_neg h4]
    · rw [if_neg h1]
/-- These tokens tell pre, and k numbers are left to tell. -/
structure RunQ (k0 : Nat) (l : List (Int × Int × Int)) (pre : List Int) (k : Nat) : Prop where
  pos : 0 < k
  few : l.length + k ≤ k0
  eq : ∀ m, decQ k0 (l ++ m) = joinQ pre l.length (decQ k m)
theorem RunQ.start {k : Nat} (h : 0 < k) : RunQ k [] [] k where
  pos := h
  few := by simp
  eq m := by
    rw [List.nil_append]
    unfold joinQ
    by_cases h0 : (decQ k m).1 = 0
    · rw [if_pos h0, List.nil_append, List.length_nil, Nat.zero_add, ← h0]
    · rw [if_neg h0]; exact decQ_shape m k h0
theorem RunQ.next {k0 : Nat} {l : List (Int × Int × Int)} {pre : List Int} {k : Nat} (h : RunQ k0 l pre k) {t : Int × Int × Int} (ht : okQ t = true) (h0 : t.1 ≠ 0) (hf : farT t < k) :
    RunQ k0 (l ++ [t]) (pre ++ (List.replicate (farT t - 1) 0 ++ [numT t])) (k - farT t) where
  pos := by omega
  few := by have := h.few; have : 0 < farT t := by unfold farT; omega
            simp only [List.length_append, List.length_singleton]; omega
  eq m := by
    rw [List.append_assoc, List.singleton_append, h.eq, joinQ_next _ _ ht h0 (by omega), List.length_append, List.length_singleton]
section
variable {σ : Type} (step : Bool → σ → Int ⊕ ((Int × Int × Int) × σ))
/-- Where a reading stands: the tokens so far, and the source behind them. -/
def SBInv (before : Int) (D : Int × List Int × List (Int × Int × Int) × Option σ) (toks : List (Int × Int × Int)) (s : σ) : Prop :=
  (toks = [] ∧ D = gB step before s) ∨ (∃ t0 tl pre k, toks = t0 :: tl ∧ firstT before t0 ∧ RunQ 63 tl pre k ∧ D = finG before (joinG ((before + numT t0) :: pre) toks (gR step k s)))
variable {step}
theorem SBInv.few {before : Int} {D : Int × List Int × List (Int × Int × Int) × Option σ} {toks : List (Int × Int × Int)} {s : σ} (h : SBInv step before D toks s) : toks.length ≤ 63 := by
  rcases h with ⟨rfl, _⟩ | ⟨t0, tl, pre, k, rfl, _, h, _⟩
  · simp
  · have := h.few; have := h.pos; simp only [List.length_cons]; omega
theorem SBInv.err {before : Int} {D : Int × List Int × List (Int × Int × Int) × Option σ} {toks : List (Int × Int × Int)} {s : σ} (h : SBInv step before D toks s) {er : Int} (hs : step toks.isEmpty s = .inl er) (hne : er ≠ 0) : D = (er, [], [], none) := by
  rcases h with ⟨rfl, hD⟩ | ⟨t0, tl, pre, k, rfl, _, h, hD⟩
  · rw [hD, gB_none hs]
  · rw [hD, joinG_none _ _ h.pos hne hs]; unfold finG; rw [if_neg hne]
theorem okT_of {t : Int × Int × Int} (h : okQ t = true) (h2 : t.1 ≤ 255) : okT t = true := by
  unfold okQ at h
  unfold okT
  rw [Bool.and_eq_true] at h ⊢
  have h3 := of_decide_eq_true h.2
  exact ⟨h.1, decide_eq_true ⟨h3.1, h2, h3.2⟩⟩
theorem okT_not {t : Int × Int × Int} (h : okQ t = false) : okT t = false := by
  cases hT : okT t with
  | false => rfl
  | true => rw [okT_okQ hT] at h; cases h
/-- What Block answers of the tokens with one more. -/
theorem SBInv.go {before : Int} {D : Int × List Int × List (Int × Int × Int) × Option σ} {toks : List (Int × Int × Int)} {s s2 : σ} {t : Int × Int × Int} (h : SBInv step before D toks s) (hs : step toks.isEmpty s = .inr (t, s2)) (ht : t.1 ≤ 255) (hb : -2047 ≤ before ∧ before ≤ 2047) :
    ((decP before (toks ++ [t])).1 = 3 ∧ SBInv step before D (toks ++ [t]) s2) ∨
    ((decP before (toks ++ [t])).1 ≠ 3 ∧ D.1 = (decP before (toks ++ [t])).1 ∧ D.2.1 = (decP before (toks ++ [t])).2.1 ∧ (D.1 = 0 → D.2.2 = (toks ++ [t], some s2)) ∧ (D.1 ≠ 0 → D.2.2 = ([], none))) := by
  have e0 : ¬ (before < -2047 ∨ 2047 < before) := by omega
  rcases h with ⟨rfl, hD⟩ | ⟨t0, tl, pre, k, rfl, hf, h, hD⟩
  · by_cases h1 : firstT before t
    · left
      have e1 : decP before [t] = (3, [], 0) := by
        unfold decP; rw [if_neg e0]; simp only []; rw [if_pos h1]; rfl
      refine ⟨by rw [List.nil_append, e1], .inr ⟨t, [], [], 63, rfl, h1, .start (by omega), ?_⟩⟩
      rw [hD, gB_go hs h1]; rfl
    · right
      have e1 : decP before [t] = (4, [], 0) := by
        unfold decP; rw [if_neg e0]; simp only []; rw [if_neg h1]
      rw [List.nil_append, e1, hD, gB_bad hs h1]
      exact ⟨by decide, rfl, rfl, fun h => by simp at h, fun _ => rfl⟩
  · have e1 : decP before (t0 :: tl ++ [t]) = if (decQ 63 (tl ++ [t])).1 = 0 then (if toksZ before ((before + numT t0) :: (decQ 63 (tl ++ [t])).2.1) = t0 :: (tl ++ [t]).take (decQ 63 (tl ++ [t])).2.2 then (0, (before + numT t0) :: (decQ 63 (tl ++ [t])).2.1, (decQ 63 (tl ++ [t])).2.2 + 1) else (4, [], 0)) else ((decQ 63 (tl ++ [t])).1, [], 0) := by
      rw [List.cons_append]; unfold decP; rw [if_neg e0]; exact if_pos hf
    have e2 := h.eq [t]
    have hs' : step false s = .inr (t, s2) := hs
    by_cases h1 : okQ t = true
    · have hT := okT_of h1 ht
      by_cases h2 : t.1 = 0
      · right
        rw [joinQ_end _ _ h.pos h1 h2] at e2
        rw [joinG_end _ _ h.pos hs' hT h2] at hD
        rw [e2] at e1
        simp only [if_true] at e1
        rw [List.take_of_length_le (by simp)] at e1
        unfold finG at hD
        simp only [if_true, List.cons_append] at hD
        by_cases h3 : toksZ before ((before + numT t0) :: (pre ++ List.replicate k 0)) = t0 :: (tl ++ [t])
        · rw [if_pos h3] at e1 hD
          rw [e1, hD]
          exact ⟨by simp, rfl, rfl, fun _ => rfl, fun h => absurd rfl h⟩
        · rw [if_neg h3] at e1 hD
          rw [e1, hD]
          exact ⟨by simp, rfl, rfl, fun h => by simp at h, fun _ => rfl⟩
      · by_cases h4 : k < farT t
        · right
          rw [joinQ_far _ _ h.pos h1 h2 h4] at e2
          rw [joinG_far _ _ h.pos hs' hT h2 h4] at hD
          rw [e2] at e1
          rw [if_neg (by simp)] at e1
          rw [e1, hD]
          exact ⟨by simp, rfl, rfl, fun h => by simp [finG] at h, fun _ => rfl⟩
        · rw [joinG_next _ _ hs' hT h2 (by omega)] at hD
          by_cases h5 : farT t = k
          · right
            rw [joinQ_next _ _ h1 h2 (by omega), h5, Nat.sub_self, joinQ_all] at e2
            rw [h5, Nat.sub_self, joinG_all] at hD
            rw [e2] at e1
            simp only [if_true] at e1
            rw [List.take_of_length_le (by simp)] at e1
            unfold finG at hD
            simp only [if_true, List.cons_append] at hD
            by_cases h3 : toksZ before ((before + numT t0) :: (pre ++ (List.replicate (k - 1) 0 ++ [numT t]))) = t0 :: (tl ++ [t])
            · rw [if_pos h3] at e1 hD
              rw [e1, hD]
              exact ⟨by simp, rfl, rfl, fun _ => rfl, fun h => absurd rfl h⟩
            · rw [if_neg h3] at e1 hD
              rw [e1, hD]
              exact ⟨by simp, rfl, rfl, fun h => by simp at h, fun _ => rfl⟩
          · left
            have hn := h.next h1 h2 (by omega)
            have e3 := hn.eq []
            rw [List.append_nil, joinQ_none _ _ hn.pos] at e3
            rw [e3] at e1
            rw [if_neg (by simp)] at e1
            refine ⟨by rw [e1], .inr ⟨t0, tl ++ [t], _, _, rfl, hf, hn, ?_⟩⟩
            rw [hD, List.cons_append]
    · right
      have h1' : okQ t = false := by simpa using h1
      rw [joinQ_bad _ _ h.pos h1'] at e2
      rw [joinG_bad _ _ h.pos hs' (okT_not h1')] at hD
      rw [e2] at e1
      rw [if_neg (by simp)] at e1
      rw [e1, hD]
      exact ⟨by simp, rfl, rfl, fun h => by simp [finG] at h, fun _ => rfl⟩
end
end Go.Proofs.Ytddkhkpdbjjboaa
