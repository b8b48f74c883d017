/- run.Tokens and run.Block: their contracts. -/
import Derived.Test.YtemckjkdlbipcaaRunLoop
import Derived.Test.YtemckjkdlbipcaaSeqTok
import Derived.Test.YtemckjkdlbipcaaTokForm
import Derived.Test.YtemckjkdlbipcaaStepBlk
namespace Go.Proofs.Ytemckjkdlbipcaa
open Go.RowKit
set_option linter.unusedVariables false
set_option linter.unusedSimpArgs false
set_option maxRecDepth 100000

/-- What Block answers. -/
def oP (b : Int) (l : List (Int × Int × Int)) : List Int := if (decP b l).1 = 0 then fromL (decP b l).2.1 else zero64
theorem oP_length (b : Int) (l : List (Int × Int × Int)) : (oP b l).length = 64 := by
  unfold oP; split
  · exact fromL_length _
  · exact zero64_length
/-- Block by what was read. -/
theorem decP_read {b : Int} (hb : -2047 ≤ b ∧ b ≤ 2047) (l : List (Int × Int × Int)) :
    (∃ er, er ≠ 0 ∧ decF b l = (er, [], 0) ∧ decP b l = (er, [], 0)) ∨
    (∃ zs n, decF b l = (0, zs, n) ∧ zs.length = 64 ∧ (∀ z ∈ zs, -2047 ≤ z ∧ z ≤ 2047) ∧ n ≤ l.length ∧ (toksZ b zs = l.take n → decP b l = (0, zs, n)) ∧ (toksZ b zs ≠ l.take n → decP b l = (4, [], 0))) := by
  have e0 : ¬ (b < -2047 ∨ 2047 < b) := by omega
  cases l with
  | nil => left; exact ⟨3, by decide, rfl, by unfold decP; rw [if_neg e0]⟩
  | cons t l =>
    by_cases h1 : firstT b t
    · have e1 : decF b (t :: l) = joinQ [b + numT t] 1 (decQ 63 l) := if_pos h1
      have e2 : decP b (t :: l) = if (decQ 63 l).1 = 0 then (if toksZ b ((b + numT t) :: (decQ 63 l).2.1) = t :: l.take (decQ 63 l).2.2 then (0, (b + numT t) :: (decQ 63 l).2.1, (decQ 63 l).2.2 + 1) else (4, [], 0)) else ((decQ 63 l).1, [], 0) := by
        unfold decP; rw [if_neg e0]; exact if_pos h1
      rw [e1, e2]
      unfold joinQ
      by_cases h2 : (decQ 63 l).1 = 0
      · right
        rw [if_pos h2, if_pos h2]
        obtain ⟨g1, g2⟩ := decQ_in l 63 h2
        have g3 := decQ_used l 63
        refine ⟨(b + numT t) :: (decQ 63 l).2.1, (decQ 63 l).2.2 + 1, by simp [Nat.add_comm], by simp [g1], fun z hz => ?_, by simp only [List.length_cons]; omega, fun h => ?_, fun h => ?_⟩
        · rcases List.mem_cons.1 hz with rfl | hz
          · exact h1.2.2
          · exact g2 z hz
        · rw [List.take_succ_cons] at h
          exact if_pos h
        · rw [List.take_succ_cons] at h
          exact if_neg h
      · left
        rw [if_neg h2, if_neg h2]
        exact ⟨_, h2, rfl, rfl⟩
    · left
      refine ⟨4, by decide, if_neg h1, ?_⟩
      unfold decP; rw [if_neg e0]; exact if_neg h1
/-- The way out. -/
theorem block_out {w w5 : World} {b : Int} {l : List (Int × Int × Int)} {er : Int} {n : Nat} {os : List Int} {a : Act} (he : (decP b l).1 = er) (hn : (decP b l).2.2 = n) (ho : oP b l = os)
    (h4 : a.tmps.getD 4 undef = .pointer (some ⟨w.heap.size, 0, none⟩)) (h5 : a.tmps.getD 5 undef = .int .i64 (n : Int)) (h6 : a.tmps.getD 6 undef = .int .i64 er) (hdf : a.defers = [])
    (HB : Blk w5 w.heap.size (ints .i64 os) 23) (hk : Below w.heap.size w w5) :
    bodyPost Try.prog Try.f14 (fun e w' => e = .returned (.tuple #[blkV (oP b l), .int .i64 ((decP b l).2.2 : Nat), .int .i64 (decP b l).1]) ∧ Below w.heap.size w w') .ret a w5 := by
  have hl : (ints .i64 os).length = 64 := by rw [ints_length, ← ho]; exact oP_length _ _
  rw [ho, he, hn]
  exact bodyPost_ret (results_row_tmp2 rfl _ _ w.heap.size 23 (ints .i64 os).toArray (0, 0) _ (.int .i64 (n : Int)) (.int .i64 er) h4 h5 h6 HB Try.underlying23 rfl (by simp only [List.size_toArray]; exact info_blkn hl)) hdf ⟨rfl, hk⟩
theorem block_bad (b : Int) (A : Option Addr) (c : Nat) (l : List (Int × Int × Int)) (w : World) (hb : b < -2047 ∨ 2047 < b) :
    Calls Try.prog 14 #[.int .i64 b, .slice A l.length c] w fun e w' => e = .returned (.tuple #[blkV (oP b l), .int .i64 ((decP b l).2.2 : Nat), .int .i64 (decP b l).1]) ∧ Below w.heap.size w w' := by
  have HC := veil (fun W => coef_no b hb W)
  have HD : Hid (decP b l = (1, [], 0)) := by show _ = _; unfold decP; exact if_pos hb
  have HB := Blk.new w zeroB 23
  have hb1 := below1 w (.cells zeroB.toArray 23)
  have hzone := ints_one (k := .i64) (l := List.replicate 64 0)
  have hzl := veil zeroB_length
  clear hb
  go_enter Try.func14, Try.ntmps14
  go_wp2_with fail
  refine (HC.out _).mono ?_
  rintro e w1 ⟨rfl, hw1⟩
  have hw2 : w1 = w.alloc (.cells zeroB.toArray 23) := hw1
  rw [← hw2] at HB hb1
  clear hw1 hw2
  go_wp2_with (first
    | (refine wpList_store_blk w1 rfl 23 (.tmp 4) (.tmp 14) rfl w.heap.size zeroB zeroB 23 HB rfl rfl (info_blkn hzl.out) rfl hzone ?_; intro w5 HB7 hg7)
    | fail)
  exact block_out (er := 1) (n := 0) (os := zero64) (by rw [HD.out]) (by rw [HD.out]) (by unfold oP; rw [HD.out]; exact if_neg (by decide)) rfl rfl rfl rfl HB7 (hb1.grown hg7 hb1.size (fun j hj => by injection hj with hj; omega))
set_option maxHeartbeats 4000000 in
set_option maxRecDepth 100000 in
theorem block_ok (b : Int) (A : Option Addr) (c G : Nat) (l : List (Int × Int × Int)) (w : World) (hb : -2047 ≤ b ∧ b ≤ 2047) (hs : Seen w G A (tokCells l)) (hG : G ≤ w.heap.size) (hc : l.length ≤ c) (hm : c ≤ maxLen) (hbd : ∀ t ∈ l, t.1 ≤ 9223372036854775807) :
    Calls Try.prog 14 #[.int .i64 b, .slice A l.length c] w fun e w' => e = .returned (.tuple #[blkV (oP b l), .int .i64 ((decP b l).2.2 : Nat), .int .i64 (decP b l).1]) ∧ Below w.heap.size w w' := by
  have HC := veil (fun W => coef_yes b hb W)
  have hb2 := below2 w (.cells zeroB.toArray 23) (.cells #[.slice A l.length c, .int .i64 0] 48)
  have HB := (Blk.new w zeroB 23).below (below1 (w.alloc (.cells zeroB.toArray 23)) (.cells #[.slice A l.length c, .int .i64 0] 48)) (by simp)
  have HS : Blk ((w.alloc (.cells zeroB.toArray 23)).alloc (.cells #[.slice A l.length c, .int .i64 0] 48)) (w.heap.size + 1) [.slice A l.length c, .int .i64 0] 48 := by
    have := Blk.new (w.alloc (.cells zeroB.toArray 23)) [.slice A l.length c, .int .i64 0] 48
    rw [World.size_alloc] at this
    exact this
  have hz2 : ((w.alloc (.cells zeroB.toArray 23)).alloc (.cells #[.slice A l.length c, .int .i64 0] 48)).heap.size = w.heap.size + 2 := by simp
  have hsn : Seen ((w.alloc (.cells zeroB.toArray 23)).alloc (.cells #[.slice A l.length c, .int .i64 0] 48)) G A (tokCells l) := hs.below hb2 hG
  obtain ⟨W, hW⟩ : ∃ W, W = (w.alloc (.cells zeroB.toArray 23)).alloc (.cells #[.slice A l.length c, .int .i64 0] 48) := ⟨_, rfl⟩
  have HRd := veil (read_any b G (w.heap.size + 1) c A l ((w.alloc (.cells zeroB.toArray 23)).alloc (.cells #[.slice A l.length c, .int .i64 0] 48)) hb ⟨HS, hsn, Nat.zero_le _⟩ (by omega) (by omega) hbd)
  rw [← hW] at hb2 HB hz2 HRd
  have HW := veil hW
  have hzone := ints_one (k := .i64) (l := List.replicate 64 0)
  have hzl := veil zeroB_length
  have HP := veil (decP_read hb l)
  have hone := ints_one (k := .i64) (l := outP (decF b l))
  have Hlo : Hid ((ints .i64 (outP (decF b l))).length = 64) := by show _ = _; rw [ints_length]; exact outP_length _
  clear HS hsn hbd hW
  go_enter Try.func14, Try.ntmps14
  go_wp2_with fail
  refine (HC.out _).mono ?_
  rintro e w1 ⟨rfl, rfl⟩
  go_wp2_with fail
  rw [HW.out] at HRd
  refine HRd.out.mono ?_
  rintro e w3 ⟨rfl, hg3, hs3⟩
  rw [← HW.out] at hg3
  rcases HP.out with ⟨er, hne, hF, hP⟩ | ⟨zs, n, hF, hzs, hzin, hn, hok, hbad⟩
  · have hbe : (er != 0) = true := by simpa using hne
    have ho : outP (decF b l) = zero64 := by rw [hF]; exact if_neg hne
    have HPe := veil hP
    have HNe := veil hne
    have HB3 := HB.kept hg3 (by simp)
    have hbw3 : Below w.heap.size w w3 := hb2.grown hg3 hb2.size (fun j hj => by injection hj with hj; omega)
    rw [ho, hF]
    rw [ho] at hone Hlo
    have hz3 := hg3.size
    have HB4 := veil (HB3.below (below1 w3 (.cells zeroB.toArray 23)) (by omega))
    have hbw4 := veil (hbw3.alloc hbw3.size (.cells zeroB.toArray 23))
    clear HP hF ho HB3 hbw3 hs3 hg3 HRd hP hne
    go_upto_region 5 with (first
      | (refine wpList_store_new w3 rfl 23 (.tmp 8) (.tmp 23) rfl zeroB.toArray zeroB rfl rfl (info_blkn hzl.out) (by rw [hzl.out]; rfl) hzone ?_)
      | fail)
    go_wp2_with (first
      | (refine wpList_store_blk (w3.alloc (.cells zeroB.toArray 23)) rfl 23 (.tmp 4) (.tmp 27) rfl w.heap.size zeroB zeroB 23 HB4.out rfl rfl (info_blkn hzl.out) rfl hzone ?_; intro w5 HB7 hg7)
      | fail)
    exact block_out (er := er) (n := 0) (os := zero64) (by rw [HPe.out]) (by rw [HPe.out]) (by unfold oP; rw [HPe.out]; exact if_neg HNe.out) rfl rfl rfl rfl HB7 (hbw4.out.grown hg7 hbw4.out.size (fun j hj => by injection hj with hj; omega))
  · have ho : outP (decF b l) = fromL zs := by rw [hF]; exact if_pos rfl
    have hsP := hs3 (by rw [hF])
    rw [hF] at hsP
    have HSl : Blk w3 (w.heap.size + 1) [.slice A l.length c, .int .i64 (n : Int)] 48 := hsP.1
    have HsA : Seen w3 G A (tokCells l) := hsP.2.1
    have HB3 := HB.kept hg3 (by simp)
    have hbw3 : Below w.heap.size w w3 := hb2.grown hg3 hb2.size (fun j hj => by injection hj with hj; omega)
    have hz3 := hg3.size
    rw [hz2] at hz3
    rw [ho, hF]
    rw [ho] at hone Hlo
    have HT := veil (fun W' => tokens_any b (fromL zs) W' (fromL_length _))
    have hin := inB_mem.2 fun z hz => hzin z (fromL_mem hzs hz)
    rw [oT_ok (eT_ok hb.1 hb.2 hin), eT_ok hb.1 hb.2 hin, to_from hzs] at HT
    have HTl := veil (toks_len b hzs)
    have Hok := veil hok
    have Hbad := veil hbad
    obtain ⟨T, hT⟩ : ∃ T, T = toksZ b zs := ⟨_, rfl⟩
    rw [← hT] at HT HTl Hok Hbad
    have b4 := below1 w3 (.cells (ints .i64 (fromL zs)).toArray 23)
    have HB4 := HB3.below b4 (by omega)
    have HSl4 := HSl.below b4 (by omega)
    have HsA4 := HsA.below b4 (by omega)
    have hbw4 := hbw3.alloc hbw3.size (.cells (ints .i64 (fromL zs)).toArray 23)
    have hr4 := range_new w3 (ints .i64 (fromL zs)) 23
    have HBy4 := Blk.new w3 (ints .i64 (fromL zs)) 23
    have hz4 : (w3.alloc (.cells (ints .i64 (fromL zs)).toArray 23)).heap.size = w3.heap.size + 1 := by simp
    have hlen : (l.take n).length = n := by rw [List.length_take]; omega
    have Hlen := veil hlen
    have hcut := fun u => run_cutT_to A l.length c n (by omega) u
    have hnc : (n : Int) ≤ (c : Int) := by omega
    have Hlm : Hid (l.length ≤ maxLen) := by show _ ≤ _; omega
    unfold blkV at HT ⊢
    obtain ⟨ys, hys⟩ : ∃ ys, ys = ints .i64 (fromL zs) := ⟨_, rfl⟩
    rw [← hys] at HT HB4 HSl4 HsA4 hbw4 hr4 HBy4 hz4 hone Hlo ⊢
    have HYe := veil hys
    clear HP hF ho HB3 hbw3 hs3 hg3 HRd hsP HSl HsA hT hin hok hbad hys b4 hlen
    go_upto_region 5 with (first
      | (refine wpList_store_new w3 rfl 23 (.tmp 8) (.tmp 23) rfl zeroB.toArray ys rfl rfl (info_blkn Hlo.out) (by rw [Hlo.out]; rfl) hone ?_)
      | fail)
    go_wp2_with (first
      | (refine wpList_load_mid rfl 23 (.tmp 8) rfl w3.heap.size 0 rfl ys _ hr4 Try.underlying23 rfl (info_blkn Hlo.out) ?_)
      | fail)
    refine (HT.out _).mono ?_
    rintro e w5 ⟨v, rfl, HO5, hb5⟩
    obtain ⟨A2, c2, rfl, hsT, hc1, hc2⟩ := tok_form HO5
    have hz5 := hb5.size
    rw [hz4] at hz5 hb5
    have HB5 := HB4.below hb5 (by omega)
    have HSl5 := HSl4.below hb5 (by omega)
    have HsA5 := HsA4.below hb5 (by omega)
    have HBy5 := HBy4.below hb5 (by omega)
    have hbw5 := hbw4.trans (hb5.mono (by omega))
    have k1 := HSl5.cell (i := 1) (v := .int .i64 (n : Int)) rfl
    have HE := veil (seqTok A2 A c2 c w5.heap.size T (l.take n) w5 hsT (cutT_take (HsA5.up (by omega))) (Nat.le_refl _) (by have := HTl.out; omega) (by rw [Hlen.out]; have := Hlm.out; omega))
    rw [Hlen.out] at HE
    clear HB4 HSl4 HsA4 HBy4 hbw4 hr4 HO5 hb5 HT hsT
    go_wp2_with fail
    refine HE.out.mono ?_
    rintro e w6 ⟨rfl, hb6⟩
    have hz6 := hb6.size
    have HB6 := HB5.below hb6 (by omega)
    have HSl6 := HSl5.below hb6 (by omega)
    have HBy6 := HBy5.below hb6 (by omega)
    have hbw6 := hbw5.trans (hb6.mono hbw5.size)
    have k6 := HSl6.cell (i := 1) (v := .int .i64 (n : Int)) rfl
    clear HE HB5 HSl5 HsA5 HBy5 hbw5 hb6 k1
    by_cases hTA : T = l.take n
    · rw [decide_eq_true hTA]
      have HPe := veil (Hok.out hTA)
      clear hTA Hok Hbad
      go_upto_region 10 with fail
      have hbw6d : Below w.heap.size w w6.drew := hbw6.drew
      have HB6d : Blk w6.drew w.heap.size zeroB 23 := HB6
      have hi := info_blkn Hlo.out
      refine wp_region_held_drew (S := fun w' => Blk w' w3.heap.size ys 23 ∧ w'.cell? ⟨w.heap.size + 1, 1, none⟩ = some (.int .i64 (n : Int))) (by kernel_rfl) ⟨HBy6, k6⟩ (fun hHeld0 => ?_)
      refine take_load 0 49 23 (.tmp 8) w3.heap.size 0 ys _ rfl rfl (by kernel_rfl) (by kernel_rfl) (by kernel_rfl) (fun _ _ _ h => h) rfl rfl rfl (fun w' h => h.1.range) Try.underlying23 rfl hi hHeld0 rfl ?_
      refine take_pure 1 50 (.pointer (some ⟨w.heap.size + 1, 0, none⟩)) _ rfl rfl (by kernel_rfl) (by kernel_rfl) (by kernel_rfl) (fun _ _ _ h => h) rfl (fun w' hS => by go_simp) hHeld0 rfl ?_
      refine take_pure 2 51 (.pointer (some ⟨w.heap.size + 1, 0, none⟩)) _ rfl rfl (by kernel_rfl) (by kernel_rfl) (by kernel_rfl) (fun _ _ _ h => h) rfl (fun w' hS => by go_simp) hHeld0 rfl ?_
      refine take_pure 3 52 (.pointer (some ⟨w.heap.size + 1, 1, none⟩)) _ rfl rfl (by kernel_rfl) (by kernel_rfl) (by kernel_rfl) (fun _ _ _ h => h) rfl (fun w' hS => by go_simp) hHeld0 rfl ?_
      refine take_pure 4 53 (.int .i64 (n : Int)) _ rfl rfl (by kernel_rfl) (by kernel_rfl) (by kernel_rfl) (fun _ _ _ h => h) rfl (fun w' hS => by have := hS.2; go_simp) hHeld0 rfl ?_
      refine wpAnyH_ready (rs := [5]) (by kernel_rfl) (by simp) ?_
      refine AllReadyH.cons rfl (fun K hK => ?_) AllReadyH.nil
      refine step_store_blk _ rfl 23 (.tmp 4) (.tmp 49) rfl w.heap.size zeroB ys 23 HB6d rfl rfl (info_blkn Hlo.out) (by rw [Hlo.out, hzl.out]) hone ?_
      intro w9 HB9 hg9
      refine hK.out _ _ ⟨hHeld0.1.kept hg9 (by simp; omega), (World.cell?_of_block (hg9.block (w.heap.size + 1) (by show _ < w6.heap.size; omega) (by simp))).trans hHeld0.2⟩ (fun hHeld1 => ?_)
      clear hK K
      refine take_pure 6 5 (.int .i64 (n : Int)) _ rfl rfl (by kernel_rfl) (by kernel_rfl) (by kernel_rfl) (fun _ _ _ h => h) rfl (fun w' hS => by go_simp) hHeld1 rfl ?_
      refine take_pure 7 6 (.int .i64 0) _ rfl rfl (by kernel_rfl) (by kernel_rfl) (by kernel_rfl) (fun _ _ _ h => h) rfl (fun w' hS => by go_simp) hHeld1 rfl ?_
      refine wpAnyH_done (by kernel_rfl) ?_ _
      go_wp2
      exact block_out (er := 0) (n := n) (os := fromL zs) (by rw [HPe.out]) (by rw [HPe.out]) (by unfold oP; rw [HPe.out]; exact if_pos rfl) rfl rfl rfl rfl (by rw [← HYe.out]; exact HB9) (hbw6d.grown hg9 hbw6d.size (fun j hj => by injection hj with hj; omega))
    · rw [decide_eq_false hTA]
      have HPe := veil (Hbad.out hTA)
      clear hTA Hok Hbad
      go_wp2_with (first
        | (refine wpList_store_blk w6 rfl 23 (.tmp 4) (.tmp 48) rfl w.heap.size zeroB zeroB 23 HB6 rfl rfl (info_blkn hzl.out) rfl hzone ?_; intro w9 HB9 hg9)
        | fail)
      exact block_out (er := 4) (n := 0) (os := zero64) (by rw [HPe.out]) (by rw [HPe.out]) (by unfold oP; rw [HPe.out]; exact if_neg (by decide)) rfl rfl rfl rfl HB9 (hbw6.grown hg9 hbw6.size (fun j hj => by injection hj with hj; omega))
theorem block_any (b : Int) (A : Option Addr) (c G : Nat) (l : List (Int × Int × Int)) (w : World) (hs : Seen w G A (tokCells l)) (hG : G ≤ w.heap.size) (hc : l.length ≤ c) (hm : c ≤ maxLen) (hbd : ∀ t ∈ l, t.1 ≤ 9223372036854775807) :
    Calls Try.prog 14 #[.int .i64 b, .slice A l.length c] w fun e w' => e = .returned (.tuple #[blkV (oP b l), .int .i64 ((decP b l).2.2 : Nat), .int .i64 (decP b l).1]) ∧ Below w.heap.size w w' := by
  by_cases hb : -2047 ≤ b ∧ b ≤ 2047
  · exact block_ok b A c G l w hb hs hG hc hm hbd
  · exact block_bad b A c l w (by omega)
/-- A block's tokens are small. -/
theorem rest_small : ∀ (zs : List Int) (r : Nat), (∀ z ∈ zs, -2047 ≤ z ∧ z ≤ 2047) → ∀ t ∈ restT r zs, t.1 ≤ 255
  | [], r, _, t, ht => by
    rw [restT_nil] at ht
    split at ht
    · simp at ht
    · rw [List.mem_singleton.1 ht]; decide
  | z :: zs, r, h, t, ht => by
    have hzs : ∀ z ∈ zs, -2047 ≤ z ∧ z ≤ 2047 := fun x hx => h x (List.mem_cons_of_mem _ hx)
    have hz := h z List.mem_cons_self
    by_cases h0 : z = 0
    · subst h0
      rw [restT_zero] at ht
      exact rest_small zs (r + 1) hzs t ht
    · rw [restT_cons r zs h0] at ht
      rcases List.mem_append.1 ht with ht | ht
      · rw [(List.mem_replicate.1 ht).2]; decide
      · rcases List.mem_cons.1 ht with rfl | ht
        · have := sz_11 hz.1 hz.2
          unfold tkN; simp only []; omega
        · exact rest_small zs 0 hzs t ht
theorem oT_small (b : Int) (cs : List Int) (hc : cs.length = 64) : ∀ t ∈ oT b cs, t.1 ≤ 9223372036854775807 := by
  intro t ht
  unfold oT at ht
  split at ht
  · rename_i he
    obtain ⟨h1, h2, h3⟩ := eT_zero he
    have h4 := toL_in hc h3
    match hz : toL cs, toL_length cs, ht with
    | [], h, _ => simp at h
    | z :: zs, _, ht =>
      rw [hz] at h4
      rw [toksZ] at ht
      rcases List.mem_cons.1 ht with rfl | ht
      · have h5 := h4 z List.mem_cons_self
        have := sz_12 (n := z - b) (by omega) (by omega)
        unfold tkN; simp only []; omega
      · have := rest_small zs 0 (fun x hx => h4 x (List.mem_cons_of_mem _ hx)) t ht
        omega
  · simp at ht
end Go.Proofs.Ytemckjkdlbipcaa
