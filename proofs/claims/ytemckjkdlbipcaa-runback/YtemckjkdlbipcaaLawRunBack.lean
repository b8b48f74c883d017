/- The law on a block there and back, whatever tokens follow, walked. -/
import Derived.Test.YtemckjkdlbipcaaRunKeep
import Derived.Test.YtemckjkdlbipcaaTokApp
namespace Go.Proofs.Ytemckjkdlbipcaa
open Go.RowKit
set_option linter.unusedVariables false
set_option linter.unusedSimpArgs false
set_option maxRecDepth 100000

set_option maxHeartbeats 2000000 in
set_option maxRecDepth 100000 in
theorem runBack_walk (b : Int) (cs : List Int) (Am : Option Addr) (cm : Nat) (more : List (Int × Int × Int)) (w : World) (hb : -9223372036854775808 ≤ b ∧ b ≤ 9223372036854775807) (hc : cs.length = 64)
    (hs : Seen w w.heap.size Am (tokCells more)) (hl : more.length ≤ maxLen) (hbm : ∀ t ∈ more, t.1 ≤ 9223372036854775807) (hsz : more.length ≤ 5864062014634) :
    Calls Try.prog 5 #[.int .i64 b, blkV cs, .slice Am more.length cm] w fun e w' => e = .returned (.bool true) ∧ Below w.heap.size w w' := by
  have hb00 := below1 w (.cells (ints .i64 cs).toArray 23)
  have hz0 : (w.alloc (.cells (ints .i64 cs).toArray 23)).heap.size = w.heap.size + 1 := by simp
  have HBx := Blk.new w (ints .i64 cs) 23
  have H0 := veil (ranned_any (w.alloc (.cells (ints .i64 cs).toArray 23)))
  have H1 := veil (fun W => tokens_any b cs W hc)
  have hTl := veil (oT_len b cs)
  have HTok : Hid (eT b cs = 0 → decP b (oT b cs ++ more) = (0, toL cs, (oT b cs).length) ∧ oP b (oT b cs ++ more) = cs) := fun h => by
    obtain ⟨h1, h2, h3⟩ := eT_zero h
    have h4 := decB_toksZ ⟨h1, h2⟩ (toL_length cs) (toL_in hc h3) more
    rw [← decP_of (by rw [h4]; simp)] at h4
    rw [oT_ok h]
    refine ⟨h4, ?_⟩
    unfold oP; rw [h4]; simp only [if_true]; exact from_to hc
  have HTs := veil (oT_small b cs hc)
  have Hbm := veil hbm
  clear hbm
  have HTno : Hid (eT b cs = 1 → oT b cs = []) := fun h => oT_bad (by rw [h]; decide)
  have hE2 := veil (eT_two b cs)
  have Hl : Hid ((ints .i64 cs).length = 64) := by show _ = _; rw [ints_length, hc]
  have hone := ints_one (k := .i64) (l := cs)
  have heq : ∀ u, (binOp .eql 23 (blkV cs) (blkV cs)).run Try.prog u = .ok (.bool true) u := fun u => blk_same cs hc u
  generalize oT b cs = T at *
  generalize eT b cs = er at *
  unfold blkV at *
  go_enter Try.func5, Try.ntmps5
  go_wp2_with fail
  refine H0.out.mono ?_
  rintro e w0 ⟨rfl, hb0⟩
  have HB0 := HBx.below hb0 (by rw [hz0]; omega)
  have hr0 := HB0.range
  have hbw0 := hb00.trans (hb0.mono (by rw [hz0]; omega))
  have hz00 := hb0.size
  rw [hz0] at hz00
  clear H0 HBx hb0 hb00
  go_wp2_with (first
    | (refine wpList_load_mid rfl 23 (.tmp 4) rfl w.heap.size 0 rfl (ints .i64 cs) _ hr0 Try.underlying23 rfl (info_blkn Hl.out) ?_)
    | fail)
  refine (H1.out _).mono ?_
  rintro e w1 ⟨v, rfl, HO, hb1⟩
  have HB1 := HB0.below hb1 (by omega)
  have hbw1 := hbw0.trans (hb1.mono hbw0.size)
  have hz1 := hb1.size
  clear hr0 H1 HB0
  rcases hE2.out with h | h
  · subst h
    obtain ⟨hD, hO⟩ := HTok.out rfl
    obtain ⟨A, c, rfl, hsT, hc1, hc2⟩ := tok_form HO
    have hTl' := hTl.out
    have HOn := HO.fresh 30 3
    have hsm := hs.below hbw1 (Nat.le_refl _)
    have HD := veil hD
    have HOe := veil hO
    have Hsm := veil hsm
    clear hD hO HO HTok HTno hs hsm hbw0 hb1
    go_wp2_with (first
      | (refine wpList_ownKV w2 rfl (.tmp 28) (.tmp 29) rfl w0.heap.size (.slice A2 T.length c2) T more [tokRow (.slice A T.length c) T] rfl HO2 w.heap.size Am cm rfl (Hsm.out.below hb2 (by omega)) (T.length + more.length) rfl (by omega) ?_; intro A3 c3 w3 HO3 h3a h3b hb3)
      | (refine wpList_ownKV w1 rfl (.const (.slice none 0 0)) (.tmp 27) rfl w0.heap.size (.slice none 0 0) [] T [tokRow (.slice A T.length c) T] rfl HOn w1.heap.size A c rfl hsT T.length (by simp) (by simp; omega) ?_; intro A2 c2 w2 HO2 h2a h2b hb2)
      | fail)
    obtain ⟨A4, c4, e4, hs4, _, _⟩ := tok_form HO3
    injection e4 with e4 _ e5
    subst e4 e5
    have hlen : (T ++ more).length = T.length + more.length := List.length_append
    have HBk := veil (block_any b A3 c3 w3.heap.size (T ++ more) w3 hs4 (Nat.le_refl _) (by rw [hlen]; exact h3a) h3b (fun t ht => by rcases List.mem_append.1 ht with ht | ht; exact HTs.out t ht; exact Hbm.out t ht))
    rw [HD.out, HOe.out, hlen] at HBk
    have hb13 := (hb2.mono (Nat.le_refl _)).trans hb3
    have hz13 := hb13.size
    have HB3 := HB1.below hb13 (by omega)
    have hbw3 := hbw1.trans (hb13.mono (by omega))
    clear hs4 HO3 HO2 HOn hb2 hb3 hb13 hsT HB1 hlen h2a h2b
    refine HBk.out.mono ?_
    rintro e w4 ⟨rfl, hb4⟩
    have hz4 := hb4.size
    have hz3 := hbw3.size
    have r5 := ((HB3.below hb4 (by have := hbw3.size; omega)).below (below1 w4 (.cells (ints .i64 cs).toArray 23)) (by omega)).range
    have r6 := range_new w4 (ints .i64 cs) 23
    have hbw4 := hbw3.trans (hb4.mono hbw3.size)
    have hf := hbw4.alloc hbw4.size (.cells (ints .i64 cs).toArray 23)
    clear HTs Hbm HBk HB3 hb4 hbw4 hTl' hc1 hc2 hsz hl HD HOe Hsm h3a h3b hTl hz4 hz3 hz13 hz00 hz1 hz0 hbw3 hbw1 hb
    generalize T.length = tl at *
    go_upto_region 7 with (first
      | (refine wpList_store_new w4 rfl 23 (.tmp 9) (.tmp 32) rfl zeroB.toArray (ints .i64 cs) rfl rfl (info_blkn Hl.out) (by rw [Hl.out]; rfl) hone ?_)
      | fail)
    go_wp2_with (first
      | (refine wpList_load_long rfl 23 (.tmp 4) rfl w.heap.size 0 rfl (ints .i64 cs) _ r5 Try.underlying23 rfl (info_blkn Hl.out) ?_)
      | (refine wpList_load_long rfl 23 (.tmp 9) rfl w4.heap.size 0 rfl (ints .i64 cs) _ r6 Try.underlying23 rfl (info_blkn Hl.out) ?_)
      | fail)
    go_ret
    exact ⟨ret_bool (by simp), hf⟩
  · subst h
    have hT := HTno.out rfl
    subst hT
    obtain ⟨A, c, rfl, _, _, _⟩ := tok_form HO
    go_wp2
    go_ret
    exact ⟨rfl, hbw1⟩
end Go.Proofs.Ytemckjkdlbipcaa
