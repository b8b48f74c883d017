/- bits.Read: its contract. -/
import Derived.Test.YtjphfbapekdjmaaBitsNumber
import Derived.Laws.MakeOwn
namespace Go.Proofs.Ytjphfbapekdjmaa
open Go.RowKit
set_option linter.unusedVariables false
set_option linter.unusedSimpArgs false
set_option maxRecDepth 100000

theorem info_int : (Try.prog.info? 3).map (fun i => (i.zero, i.size, i.bytes)) = some (some (.int .i64 0), 1, 8) := by kernel_rfl
theorem run_make_ints (n : Nat) (h : n ≤ 1099511627776) (u : World) : (Instr.makeSlice 23 (.int .i64 0) (.int .i64 (n : Int))).run Try.prog u =
    .ok (.slice (some ⟨u.heap.size, 0, none⟩) 0 n) (u.alloc (.cells (madeCells #[.int .i64 0] n) 3)) := by
  obtain ⟨i0, hi, hz0, hz1, hz2⟩ := info_parts info_int
  have h := run_make (P := Try.prog) u 23 3 i0 (.int .i64 0) Try.underlying23 hi hz0 .i64 .i64 0 n (by omega) (by omega) (by rw [hz2]; omega) (by omega)
  simpa [hz1, Value.cells] using h

/-- What Read answers of widths, so many bits left. -/
def readE (n : Int) : Int → List Int → Int
  | _, [] => 0
  | at_, x :: ws => if okW x = true then (if n - at_ < x then 3 else readE n (at_ + x) ws) else 1
def readErr (bs ws : List Int) : Int := if 20000 < ws.length then 2 else readE (8 * bs.length) 0 ws
def readOut (bs ws : List Int) : List Int := if readErr bs ws = 0 then readB (unpack bs) ws else []
def readSum (bs ws : List Int) : Int := if readErr bs ws = 0 then sumW ws else 0

theorem sumW_snoc (ws : List Int) (x : Int) : sumW (ws ++ [x]) = sumW ws + x := by
  induction ws with
  | nil => simp [sumW]
  | cons y ws ih => simp only [sumW, List.cons_append, List.foldr_cons] at ih ⊢; omega
theorem sumW_nonneg (ws : List Int) (h : ∀ x ∈ ws, 0 ≤ x) : 0 ≤ sumW ws := by
  induction ws with
  | nil => simp [sumW]
  | cons y ws ih =>
    have h1 := h y (by simp)
    have h2 := ih fun x hx => h x (by simp [hx])
    simp only [sumW, List.foldr_cons] at h2 ⊢; omega
theorem readB_snoc (bits : List Bool) (ws : List Int) (x : Int) (h : ∀ y ∈ ws, 0 ≤ y) : readB bits (ws ++ [x]) = readB bits ws ++ [(valB ((bits.drop (sumW ws).toNat).take x.toNat) : Int)] := by
  induction ws generalizing bits with
  | nil => simp [readB, sumW]
  | cons y ws ih =>
    have h1 := h y (by simp)
    have h2 := sumW_nonneg ws fun z hz => h z (by simp [hz])
    rw [List.cons_append, readB, ih _ (fun z hz => h z (by simp [hz])), readB, List.cons_append]
    have e : (sumW (y :: ws)).toNat = y.toNat + (sumW ws).toNat := by
      simp only [sumW, List.foldr_cons] at h2 ⊢; omega
    rw [List.drop_drop, e]

structure RInv (w : World) (bs ws : List Int) (k : Nat) (v : Value) (at_ : Nat) (wr : World) : Prop where
  sum : sumW (ws.take k) = at_
  at_le : at_ ≤ 8 * bs.length
  pos : ∀ x ∈ ws.take k, 0 ≤ x
  err : readE (8 * bs.length) 0 ws = readE (8 * bs.length) at_ (ws.drop k)
  own : wr.ownsRow w.heap.size 3 1 v (readB (unpack bs) (ws.take k)).length (ints .i64 (readB (unpack bs) (ws.take k)))
  bel : Below w.heap.size w wr

theorem readB_length (b : List Bool) (ws : List Int) : (readB b ws).length = ws.length := by
  induction ws generalizing b with
  | nil => rfl
  | cons y ws ih => simp [readB, ih]

theorem readOut_err {bs ws : List Int} (h : readErr bs ws ≠ 0) : readOut bs ws = [] := by unfold readOut; rw [if_neg h]
theorem readSum_err {bs ws : List Int} (h : readErr bs ws ≠ 0) : readSum bs ws = 0 := by unfold readSum; rw [if_neg h]
theorem readOut_ok {bs ws : List Int} (h : readErr bs ws = 0) : readOut bs ws = readB (unpack bs) ws := by unfold readOut; rw [if_pos h]
theorem readSum_ok {bs ws : List Int} (h : readErr bs ws = 0) : readSum bs ws = sumW ws := by unfold readSum; rw [if_pos h]
theorem drop_at {ws : List Int} {k : Nat} {x : Int} (h : ws[k]? = some x) : ws.drop k = x :: ws.drop (k + 1) := by
  obtain ⟨hk, rfl⟩ := List.getElem?_eq_some_iff.1 h
  exact List.drop_eq_getElem_cons hk
section
variable {w wr : World} {bs ws : List Int} {k at_ : Nat} {v : Value}
theorem RInv.stop_arg (h : RInv w bs ws k v at_ wr) {x : Int} (hx : ws[k]? = some x) (hok : okW x = false) (hbig : ¬ 20000 < ws.length) : readErr bs ws = 1 := by
  unfold readErr; rw [if_neg hbig, h.err, drop_at hx, readE, if_neg (by rw [hok]; decide)]
theorem RInv.stop_short (h : RInv w bs ws k v at_ wr) {x : Int} (hx : ws[k]? = some x) (hok : okW x = true) (hs : 8 * (bs.length : Int) - at_ < x) (hbig : ¬ 20000 < ws.length) : readErr bs ws = 3 := by
  unfold readErr; rw [if_neg hbig, h.err, drop_at hx, readE, if_pos hok, if_pos hs]
theorem RInv.done (h : RInv w bs ws ws.length v at_ wr) (hbig : ¬ 20000 < ws.length) : readErr bs ws = 0 := by
  unfold readErr; rw [if_neg hbig, h.err, List.drop_length]; rfl
theorem RInv.step (h : RInv w bs ws k v at_ wr) {X : Nat} (hx : ws[k]? = some (X : Int)) (hok : okW (X : Int) = true) (hs : ¬ 8 * (bs.length : Int) - at_ < X) {v' : Value} {w' : World}
    (hown : w'.ownsRow w.heap.size 3 1 v' (readB (unpack bs) (ws.take k) ++ [(valB (cutB bs at_ X) : Int)]).length (ints .i64 (readB (unpack bs) (ws.take k) ++ [(valB (cutB bs at_ X) : Int)]))) (hb : Below w.heap.size wr w') :
    RInv w bs ws (k + 1) v' (at_ + X) w' := by
  have ht := take_snoc hx
  refine ⟨?_, by omega, ?_, ?_, ?_, h.bel.trans hb⟩
  · rw [ht, sumW_snoc, h.sum]; simp
  · intro y hy
    rw [ht] at hy
    rcases List.mem_append.1 hy with hy | hy
    · exact h.pos y hy
    · simp at hy; omega
  · rw [h.err, drop_at hx, readE, if_pos hok, if_neg hs]; simp
  · rw [ht, readB_snoc _ _ _ h.pos, h.sum, Int.toNat_natCast, Int.toNat_natCast]
    exact hown
end

set_option maxHeartbeats 1000000 in
theorem read_any (A A2 : Option Addr) (c c2 G : Nat) (bs ws : List Int) (w : World) (hb : Seen w G A (ints .u8 bs)) (hby : Bytes bs) (hws : Seen w G A2 (ints .i64 ws)) (hG : G ≤ w.heap.size) (hl : bs.length ≤ 1152921504606846975) (hlw : ws.length ≤ maxLen) (hw64 : ∀ x ∈ ws, -9223372036854775808 ≤ x ∧ x ≤ 9223372036854775807) :
    Calls Try.prog 18 #[.slice A bs.length c, .slice A2 ws.length c2] w fun e w' => ∃ v, e = .returned (.tuple #[v, .int .i64 (readSum bs ws), .int .i64 (readErr bs ws)]) ∧ w'.ownsRow w.heap.size 3 1 v (readOut bs ws).length (ints .i64 (readOut bs ws)) ∧ Below w.heap.size w w' := by
  unfold maxLen at hlw
  by_cases hbig : 20000 < ws.length
  · have hbig' : (20000 : Int) < (ws.length : Int) := by omega
    have He : Hid (readErr bs ws = 2) := by show readErr bs ws = 2; unfold readErr; rw [if_pos hbig]
    have Ho : Hid (readOut bs ws = []) := by show readOut bs ws = []; unfold readOut; rw [He.out]; rfl
    have Hs : Hid (readSum bs ws = 0) := by show readSum bs ws = 0; unfold readSum; rw [He.out]; rfl
    go_enter Try.func18, Try.ntmps18
    go_wp2
    go_ret3
    exact ⟨_, ret_three rfl (by rw [Hs.out]; rfl) (by rw [He.out]; rfl), by rw [Ho.out]; exact World.ownsRow_nil _ _ _ _, Below.refl _ _⟩
  · have hbig' : ¬ (20000 : Int) < (ws.length : Int) := by omega
    have hmk := run_make_ints ws.length (by omega)
    go_enter Try.func18, Try.ntmps18
    go_wp2_with fail
    clear hmk
    go_loopg [7, 8, 10, 19] ws.length (fun gk v av x i wr => ∃ (k at_ : Nat), gk = ws.length - k ∧ k ≤ ws.length ∧ i = .int .i64 k ∧ av = .int .i64 at_ ∧ RInv w bs ws k v at_ wr)
    case atStart =>
      refine ⟨0, 0, rfl, Nat.zero_le _, rfl, rfl, rfl, by omega, by simp, rfl, ?_, below1 _ _⟩
      exact World.ownsRow_made _ _ _ (Nat.le_refl _) (by unfold maxLen; omega) (by rw [size_madeCells, Nat.mul_one])
    case round =>
      obtain ⟨k, at_, rfl, hk, rfl, rfl, hI⟩ := hrel
      have hat := hI.at_le
      by_cases hlt : k < ws.length
      · obtain ⟨g, o, x, rfl, hg, hx, h1⟩ := hws.int hlt
        have hx64 := hw64 x (List.mem_of_getElem? hx)
        have Hx := veil hx; clear hx
        rw [← hI.bel.cell (by simp; omega)] at h1
        by_cases hok : okW x = true
        · by_cases hsh : 8 * (bs.length : Int) - at_ < x
          · have He := hI.stop_short Hx.out hok hsh hbig
            have Ho := readOut_err (by rw [He]; decide)
            have Hs := readSum_err (by rw [He]; decide)
            have He := veil He; have Ho := veil Ho; have Hs := veil Hs
            go_wp2_with (go_at_call 35; refine (isWidth_any _ _).mono ?_; rintro e w1 ⟨rfl, rfl⟩)
            go_ret3
            exact ⟨_, ret_three rfl (by rw [Hs.out]; rfl) (by rw [He.out]; rfl), by rw [Ho.out]; exact World.ownsRow_nil _ _ _ _, hI.bel⟩
          · obtain ⟨X, hX, rfl⟩ : ∃ X : Nat, X ≤ 24 ∧ x = X := by
              simp [okW] at hok
              exact ⟨x.toNat, by omega, by omega⟩
            have hL : (readB (unpack bs) (ws.take k)).length ≤ 20000 := by rw [readB_length]; simp; omega
            have hB := hI.bel.size
            go_wp2_with (first
              | (go_at_call 35; refine (isWidth_any _ _).mono ?_; rintro e w1 ⟨rfl, rfl⟩)
              | (go_at_call 36; refine (number_any A c G bs at_ X _ (hb.below hI.bel (by omega)) hby (by omega) hX hl).mono ?_; rintro e w1 ⟨rfl, rfl⟩)
              | (at_builtin; go_loud (refine wpList_app1 _ rfl (.tmp 33) (.tmp 38) _ rfl w.heap.size 3 .i64 8 Try.underlying23 info_int _ (readB (unpack bs) (ws.take k)) _ rfl hI.own rfl (by omega) (by omega) (by omega) ?_); intro v' w' hown' hbel' hsz'))
            go_roundg (ws.length - (k + 1))
            case rel => exact ⟨k + 1, at_ + X, rfl, by omega, by go_num, by go_num, hI.step Hx.out hok (by omega) hown' hbel'⟩
            case measure => omega
        · have hok' : okW x = false := by simpa using hok
          have He := hI.stop_arg Hx.out hok' hbig
          have Ho := readOut_err (by rw [He]; decide)
          have Hs := readSum_err (by rw [He]; decide)
          have He := veil He; have Ho := veil Ho; have Hs := veil Hs
          clear hok
          go_wp2_with (go_at_call 35; refine (isWidth_any _ _).mono ?_; rintro e w1 ⟨rfl, rfl⟩)
          go_ret3
          exact ⟨_, ret_three rfl (by rw [Hs.out]; rfl) (by rw [He.out]; rfl), by rw [Ho.out]; exact World.ownsRow_nil _ _ _ _, hI.bel⟩
      · obtain rfl : k = ws.length := by omega
        have He := hI.done hbig
        have Ho := readOut_ok He
        have Hs := readSum_ok He
        have hw := hI.sum
        have hown := hI.own
        rw [List.take_length] at hw hown
        rw [← Ho] at hown
        rw [hw] at Hs
        have He := veil He; have Hs := veil Hs; clear Ho hw
        go_wp2
        go_ret3
        exact ⟨_, ret_three rfl (by rw [Hs.out]; rfl) (by rw [He.out]; rfl), hown, hI.bel⟩
end Go.Proofs.Ytjphfbapekdjmaa
