/- BitsAgain: its walk. -/
import Derived.Test.YtgongeblinomcaaWritten
import Derived.Test.YtgongeblinomcaaBitsRead
import Derived.Test.YtgongeblinomcaaRest
import Derived.OpenShut
namespace Go.Proofs.Ytgongeblinomcaa
open Go.RowKit
set_option linter.unusedVariables false
set_option linter.unusedSimpArgs false

/-- Widths that are all in order, and how many bits they leave. -/
structure AInv (w : World) (bs al : List Int) (L : Nat) (v : Value) (wr : World) : Prop where
  ok : ∀ x ∈ al, 0 ≤ x ∧ x ≤ 24
  sum : sumW al + L = 8 * bs.length
  own : wr.ownsRow w.heap.size 3 1 v al.length (ints .i64 al)
  bel : Below w.heap.size w wr
theorem AInv.snoc {w wr w' : World} {bs al : List Int} {L : Nat} {v v' : Value} (h : AInv w bs al L v wr) {x : Int} (hx : 0 ≤ x ∧ x ≤ 24) (hL : x ≤ L)
    (hown : w'.ownsRow w.heap.size 3 1 v' (al ++ [x]).length (ints .i64 (al ++ [x]))) (hb : Below w.heap.size wr w') : AInv w bs (al ++ [x]) (L - x.toNat) v' w' := by
  refine ⟨fun y hy => ?_, ?_, hown, h.bel.trans hb⟩
  · rcases List.mem_append.1 hy with hy | hy
    · exact h.ok y hy
    · simp at hy; subst hy; exact hx
  · have := h.sum
    rw [sumW_snoc]; omega
theorem readE_ok (n : Int) : ∀ (ws : List Int) (at_ : Int), (∀ x ∈ ws, 0 ≤ x ∧ x ≤ 24) → at_ + sumW ws ≤ n → readE n at_ ws = 0
  | [], _, _, _ => rfl
  | x :: ws, at_, h, hs => by
    have hx := h x (by simp)
    have h2 := sumW_nonneg ws fun y hy => (h y (by simp [hy])).1
    have e : sumW (x :: ws) = x + sumW ws := rfl
    rw [readE, if_pos (by simp [okW]; omega), if_neg (by omega)]
    exact readE_ok n ws _ (fun y hy => h y (by simp [hy])) (by omega)
/-- Fields of these widths, with the numbers that are read: their bits are what was read. -/
theorem zip_bits : ∀ (ws : List Int) (b : List Bool), (∀ x ∈ ws, 0 ≤ x ∧ x ≤ 24) → sumW ws = b.length → fieldBits (ws.zip (readB b ws)) = b
  | [], b, _, h => by
    have : b = [] := List.eq_nil_of_length_eq_zero (by simp [sumW] at h; omega)
    subst this; rfl
  | x :: ws, b, h, hs => by
    have hx := h x (by simp)
    have h2 := sumW_nonneg ws fun y hy => (h y (by simp [hy])).1
    have e : sumW (x :: ws) = x + sumW ws := rfl
    have hl : (b.take x.toNat).length = x.toNat := by simp; omega
    rw [readB, List.zip_cons_cons, fieldBits_cons, zip_bits ws _ (fun y hy => h y (by simp [hy])) (by simp; omega)]
    have h3 := bitsN_valB (b.take x.toNat)
    rw [hl] at h3
    simp only [Int.toNat_natCast]
    rw [h3, List.take_append_drop]
theorem zip_ok : ∀ (ws : List Int) (b : List Bool), (∀ x ∈ ws, 0 ≤ x ∧ x ≤ 24) → ∀ f ∈ ws.zip (readB b ws), okF f
  | [], b, _, f, hf => by simp [readB] at hf
  | x :: ws, b, h, f, hf => by
    rw [readB, List.zip_cons_cons] at hf
    rcases List.mem_cons.1 hf with rfl | hf
    · have hx := h x (by simp)
      refine ⟨hx, by simp, ?_⟩
      have h1 := valB_lt (b.take x.toNat)
      have h2 : 2 ^ (b.take x.toNat).length ≤ 2 ^ x.toNat := two_pow_lt _ _ (by simp; omega)
      have h3 : ((valB (b.take x.toNat) : Nat) : Int) < ((2 ^ x.toNat : Nat) : Int) := by omega
      simpa using h3
    · exact zip_ok ws _ (fun y hy => h y (by simp [hy])) f hf
theorem again_back {bs al out : List Int} (hby : Bytes bs) (hok : ∀ x ∈ al, 0 ≤ x ∧ x ≤ 24) (hs : sumW al = 8 * bs.length) (hl : al.length ≤ 20000) (h : Written (al.zip (readB (unpack bs) al)) out) :
    writeErr (al.zip (readB (unpack bs) al)) = 0 ∧ bs = out := by
  have he : writeErr (al.zip (readB (unpack bs) al)) = 0 := by
    unfold writeErr
    rw [if_neg (by simp [readB_length]; omega), if_pos (zip_ok al _ hok)]
  refine ⟨he, ?_⟩
  obtain ⟨hb, p, hp, heq⟩ := h.2 he
  rw [zip_bits al _ hok (by rw [unpack_length]; omega)] at heq
  have hlen := congrArg List.length heq
  simp [unpack_length] at hlen
  have : p = 0 := by omega
  subst this
  exact (unpack_inj hb hby (by simpa using heq)).symm

theorem info_field : (Try.prog.info? 32).map (fun i => (i.zero, i.size, i.bytes)) = some (some (.agg #[.int .i64 0, .int .i64 0]), 2, 16) := by kernel_rfl

set_option maxHeartbeats 2000000 in
theorem bitsAgain_walk (A : Option Addr) (c : Nat) (bs : List Int) (A2 : Option Addr) (c2 : Nat) (ws : List Int) (w : World) (hb : Seen w w.heap.size A (ints .u8 bs)) (hbw : ∀ x ∈ bs, (Lit.int .u8 x).wf = true) (hbl : bs.length ≤ maxLen) (hbl' : bs.length ≤ 1048576)
    (hw : Seen w w.heap.size A2 (ints .i64 ws)) (hww : ∀ x ∈ ws, (Lit.int .i64 x).wf = true) (hwl : ws.length ≤ maxLen) (hwl' : ws.length ≤ 1048576) :
    Calls Try.prog 8 #[.slice A bs.length c, .slice A2 ws.length c2] w fun e w' => e = .returned (.bool true) ∧ Below w.heap.size w w' := by
  have hby : Bytes bs := fun x hx => bounds_u8 (hbw x hx)
  have Hww := veil hww
  clear hbw hww hbl hwl
  go_enter Try.func8, Try.ntmps8
  go_wp2_with fail
  refine (written_any _).mono ?_
  rintro e w1 ⟨rfl, hb1⟩
  go_wp2_with fail
  go_loopg [6, 7, 9, 24] ws.length (fun gk lv v x i wr => ∃ (k L : Nat) (al : List Int), gk = ws.length - k ∧ k ≤ ws.length ∧ al.length ≤ k ∧ i = .int .i64 k ∧ lv = .int .i64 L ∧ AInv w bs al L v wr)
  case atStart => exact ⟨0, 8 * bs.length, [], rfl, Nat.zero_le _, Nat.zero_le _, rfl, by go_num, by simp, by simp [sumW], World.ownsRow_nil _ _ _ _, hb1⟩
  case round =>
    obtain ⟨k, L, al, rfl, hk, hal, rfl, rfl, hI⟩ := hrel
    have hB := hI.bel.size
    have hLs := hI.sum
    have hpos := sumW_nonneg al fun x hx => (hI.ok x hx).1
    have hL : L ≤ 8388608 := by omega
    clear hLs hpos
    by_cases hlt : k < ws.length
    · obtain ⟨g, o, x, rfl, hg, hx, h1⟩ := hw.int hlt
      have hx64 := bounds_i64 (Hww.out x (List.mem_of_getElem? hx))
      clear hx
      rw [← hI.bel.cell (by simpa using hg)] at h1
      have hr0 : 0 ≤ x % 25 := Int.emod_nonneg _ (by omega)
      have hr1 : x % 25 < 25 := Int.emod_lt_of_pos _ (by omega)
      by_cases hle : x % 25 ≤ L
      · go_wp2_with (first
          | (go_at_call 18; refine (rest_any _ _ _ (by omega) (by omega) hx64).mono ?_; rintro e w2 ⟨rfl, rfl⟩)
          | (at_builtin; go_loud (refine wpList_app1 _ rfl (.tmp 33) (.tmp 35) _ rfl w.heap.size 3 .i64 8 Try.underlying25 info_int _ al _ rfl hI.own rfl (by omega) (by omega) (by omega) ?_); intro v' w' hown' hbel' hsz'))
        go_roundg (ws.length - (k + 1))
        case rel => exact ⟨k + 1, L - (x % 25).toNat, al ++ [x % 25], rfl, by omega, by simp; omega, by go_num, by go_num, hI.snoc ⟨hr0, by omega⟩ hle hown' hbel'⟩
        case measure => omega
      · go_wp2_with (go_at_call 18; refine (rest_any _ _ _ (by omega) (by omega) hx64).mono ?_; rintro e w2 ⟨rfl, rfl⟩)
        go_roundg (ws.length - (k + 1))
        case rel => exact ⟨k + 1, L, al, rfl, by omega, by omega, by go_num, rfl, hI⟩
        case measure => omega
    · go_wp2_with fail
      go_loopg [6, 7] L (fun gk lv v wr => ∃ (L2 : Nat) (al : List Int), L2 = gk ∧ al.length + L2 ≤ 9437184 ∧ lv = .int .i64 L2 ∧ AInv w bs al L2 v wr)
      case atStart => exact ⟨L, al, rfl, by omega, rfl, hI⟩
      case round =>
        obtain ⟨L2, al2, rfl, hal2, rfl, hJ⟩ := hrel
        have hB2 := hJ.bel.size
        by_cases hz : 0 < L2
        · by_cases h24 : 24 < L2
          · have h24' : (24 : Int) < (L2 : Int) := by omega
            go_wp2_with (at_builtin; go_loud (refine wpList_app1 _ rfl (.tmp 47) (.tmp 50) _ rfl w.heap.size 3 .i64 8 Try.underlying25 info_int _ al2 _ rfl hJ.own rfl (by omega) (by omega) (by omega) ?_); intro v' w' hown' hbel' hsz')
            go_roundg (L2 - 24)
            case rel => exact ⟨L2 - 24, al2 ++ [24], rfl, by simp; omega, by go_num, hJ.snoc (by omega) (by omega) hown' hbel'⟩
            case measure => omega
          · have h24' : ¬ (24 : Int) < (L2 : Int) := by omega
            go_wp2_with (at_builtin; go_loud (refine wpList_app1 _ rfl (.tmp 47) (.tmp 50) _ rfl w.heap.size 3 .i64 8 Try.underlying25 info_int _ al2 _ rfl hJ.own rfl (by omega) (by omega) (by omega) ?_); intro v' w' hown' hbel' hsz')
            go_roundg 0
            case rel => exact ⟨0, al2 ++ [(L2 : Int)], rfl, by simp; omega, by go_num, by have := hJ.snoc (x := (L2 : Int)) (by omega) (by omega) hown' hbel'; simpa using this⟩
            case measure => omega
        · obtain rfl : L2 = 0 := by omega
          have hsum : sumW al2 = 8 * bs.length := by have := hJ.sum; simpa using this
          have Hsum := veil hsum; clear hsum
          obtain ⟨A3, c3, rfl, hs3⟩ := own_form hJ.own
          have hok := hJ.ok
          have Hok := veil hok; clear hok
          go_wp2_with fail
          refine (read_any A A3 c c3 _ bs al2 _ ((hb.below hJ.bel (Nat.le_refl _)).up hB2) hby hs3 (Nat.le_refl _) (by omega) (by unfold maxLen; omega) (fun x hx => by have := Hok.out x hx; omega)).mono ?_
          rintro e w3 ⟨v3, rfl, hown3, hb3⟩
          obtain ⟨A4, c4, rfl, hs4⟩ := own_form hown3
          have hbw : Below w.heap.size w w3 := hJ.bel.trans (hb3.mono hB2)
          by_cases hbig : 20000 < al2.length
          · have he : readErr bs al2 = 2 := by unfold readErr; rw [if_pos hbig]
            have hbig' : (20000 : Int) < (al2.length : Int) := by omega
            rw [he]
            go_wp2
            go_ret
            exact ⟨rfl, hbw⟩
          · have he : readErr bs al2 = 0 := by
              unfold readErr; rw [if_neg hbig]; exact readE_ok _ _ _ Hok.out (by rw [Hsum.out]; omega)
            have hout := readOut_ok he
            have hsm := readSum_ok he
            rw [Hsum.out] at hsm
            rw [he, hsm, hout, readB_length]
            rw [hout] at hs4
            clear hout hsm he hown3
            have hgl := readB_length (unpack bs) al2
            have Hgl := veil hgl; clear hgl
            have hn1 : ((8 * (bs.length : Int)) != (8 * (bs.length : Int))) = false := by simp
            have hn2 : ((al2.length : Int) != (al2.length : Int)) = false := by simp
            have hs3' : Seen w3 w3.heap.size A3 (ints .i64 al2) := (hs3.below hb3 (Nat.le_refl _)).up hb3.size
            go_wp2_with fail
            go_loopg [5, 13, 14, 84] al2.length (fun gk v a b i wr => ∃ k : Nat, gk = al2.length - k ∧ k ≤ al2.length ∧ i = .int .i64 k ∧ wr.ownsRow w3.heap.size 32 2 v ((al2.zip (readB (unpack bs) al2)).take k).length (pairCells ((al2.zip (readB (unpack bs) al2)).take k)) ∧ Below w3.heap.size w3 wr)
            case atStart => exact ⟨0, rfl, Nat.zero_le _, rfl, World.ownsRow_nil _ _ _ _, Below.refl _ _⟩
            case round =>
              obtain ⟨k, rfl, hk3, rfl, hown4, hb4⟩ := hrel
              have hB4 := hb4.size
              by_cases hlt3 : k < al2.length
              · obtain ⟨g, o, x, rfl, hg, hx, h1⟩ := hs3'.int hlt3
                obtain ⟨g', o', y, rfl, hg', hy, h2⟩ := hs4.int (k := k) (by rw [Hgl.out]; exact hlt3)
                rw [← hb4.cell (by simpa using hg)] at h1
                rw [← hb4.cell (by simpa using hg')] at h2
                have hz : (al2.zip (readB (unpack bs) al2))[k]? = some (x, y) := by rw [List.getElem?_zip_eq_some]; exact ⟨hx, hy⟩
                have Hz := veil hz; clear hz hx hy
                have hzl : ((al2.zip (readB (unpack bs) al2)).take k).length ≤ 20000 := by simp; omega
                go_wp2_with (at_builtin; go_loud (refine wpList_app2 _ rfl (.tmp 89) (.tmp 96) _ rfl w3.heap.size 32 Try.underlying27 info_field _ ((al2.zip (readB (unpack bs) al2)).take k) _ _ rfl hown4 rfl (by omega) (by omega) ?_); intro v' w' hown' hbel' hsz')
                go_roundg (al2.length - (k + 1))
                case rel => exact ⟨k + 1, rfl, by omega, by go_num, by rw [take_snoc Hz.out]; exact hown', hb4.trans hbel'⟩
                case measure => omega
              · obtain rfl : k = al2.length := by omega
                rw [List.take_of_length_le (by simp; omega)] at hown4
                have hzl : (al2.zip (readB (unpack bs) al2)).length ≤ 20000 := by simp; omega
                generalize hZ : al2.zip (readB (unpack bs) al2) = Z at hown4 hzl
                have HZ := veil hZ; clear hZ
                obtain ⟨A5, c5, rfl, hs5⟩ := own_form hown4
                go_wp2_with fail
                refine (write_any A5 c5 _ Z _ hs5 (Nat.le_refl _) (by unfold maxLen; omega)).mono ?_
                rintro e w5 ⟨v5, out, rfl, hown5, hW, hb5⟩
                have hZ := HZ.out
                subst hZ
                obtain ⟨he, rfl⟩ := again_back hby Hok.out Hsum.out (by omega) hW
                obtain ⟨A6, c6, rfl, hs6⟩ := own_form hown5
                rw [he]
                have hb35 := hb4.trans (hb5.mono hb4.size)
                have hbz := hbw.trans (hb35.mono hbw.size)
                go_wp2_with (go_at_call 14; refine (eqByte A A6 c c6 w5.heap.size bs bs _ ((hb.below hbz (Nat.le_refl _)).up hbz.size) hs6 (by unfold maxLen; omega) (by unfold maxLen; omega)).mono ?_; rintro e w6 ⟨rfl, rfl⟩)
                go_ret
                exact ⟨ret_bool (by simp), hbz⟩
end Go.Proofs.Ytgongeblinomcaa
