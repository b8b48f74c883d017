/- Texts shared by the claims of this seat, in one. -/
import Derived.Test.YtmdjhbkpekepgaaBd4
import Derived.Test.YtmdjhbkpekepgaaBd3
import Derived.Deep.Cut
import Derived.Deep.DeepCutAuto
import Derived.StillTailTactics
import Derived.Test.YtmdjhbkpekepgaaBd1
import Derived.Test.YtmdjhbkpekepgaaRows
import Derived.Test.YtmdjhbkpekepgaaBd2
/- The reference's FileParse: its contract. -/
namespace Go.Proofs.Ytmdjhbkpekepgaa
open Go.RowKit
set_option linter.unusedVariables false
set_option linter.unusedSimpArgs false
set_option maxRecDepth 100000

/-- The world when all that is read has its place. -/
def startW (w : World) : World := ((w.alloc (.cells noCells.toArray 32)).alloc (.cells noCells.toArray 32)).alloc (.cells #[.pointer (some ⟨w.heap.size + 1, 67, none⟩), .pointer (some ⟨w.heap.size + 1, 84, none⟩)] 61)
def ptrs (F : Nat) : List Value := [.pointer (some ⟨F, 67, none⟩), .pointer (some ⟨F, 84, none⟩)]
theorem start_is (w : World) : Below w.heap.size w (startW w) ∧ Blk (startW w) w.heap.size noCells 32 ∧ Blk (startW w) (w.heap.size + 1) noCells 32 ∧ Blk (startW w) (w.heap.size + 2) (ptrs (w.heap.size + 1)) 61 ∧ (startW w).heap.size = w.heap.size + 3 := by
  have hz1 : (w.alloc (.cells noCells.toArray 32)).heap.size = w.heap.size + 1 := by simp
  have hz2 : ((w.alloc (.cells noCells.toArray 32)).alloc (.cells noCells.toArray 32)).heap.size = w.heap.size + 2 := by simp
  have hb1 := below1 w (.cells noCells.toArray 32)
  have hb2 := below1 (w.alloc (.cells noCells.toArray 32)) (.cells noCells.toArray 32)
  have hb3 := below1 ((w.alloc (.cells noCells.toArray 32)).alloc (.cells noCells.toArray 32)) (.cells (ptrs (w.heap.size + 1)).toArray 61)
  have HF := Blk.new (w.alloc (.cells noCells.toArray 32)) noCells 32
  have HP := Blk.new ((w.alloc (.cells noCells.toArray 32)).alloc (.cells noCells.toArray 32)) (ptrs (w.heap.size + 1)) 61
  rw [hz1] at HF
  rw [hz2] at HP
  exact ⟨(hb1.trans (hb2.mono (by omega))).trans (hb3.mono (by omega)), ((Blk.new w noCells 32).below hb2 (by omega)).below hb3 (by omega), HF.below hb3 (by omega), HP, by unfold startW; simp⟩
set_option maxRecDepth 100000 in
set_option maxHeartbeats 2000000 in
theorem refFileParse_any (bs : List Int) (A : Option Addr) (c G : Nat) (w : World) (hs : Seen w G A (ints .u8 bs)) (hby : Bytes bs) (hl : bs.length ≤ maxLen) (hcap : bs.length ≤ c) (hG : G ≤ w.heap.size) :
    Calls Try.prog 15 #[.slice A bs.length c] w (ParseRes bs w) := by
  have hzv := run_zero_file
  have hb1 := below1 w (.cells noCells.toArray 32)
  have HR1 := Blk.new w noCells 32
  have hnl := info_file noCells_length
  have hz1 : (w.alloc (.cells noCells.toArray 32)).heap.size = w.heap.size + 1 := by simp
  go_enter Try.func15, Try.ntmps15
  by_cases h91 : 91000 < bs.length
  · have h91z : (91000 : Int) < (bs.length : Int) := by omega
    have he : eParse bs = 2 := if_pos h91
    go_wp2_with (first
      | (refine wpList_store_blk _ rfl 32 (.tmp 2) (.tmp 20) rfl w.heap.size noCells noCells 32 HR1 rfl rfl hnl rfl noCells_one ?_; intro w6 HB6 hg6)
      | fail)
    exact bodyPost_ret (results_row_tmp rfl _ _ w.heap.size 32 noCells.toArray (0, 0) _ (.int .i64 2) rfl rfl HB6 Try.underlying32 rfl (by simpa using hnl)) rfl (parse_bad he (by decide) (hb1.grown hg6 hb1.size (fun j hj => by injection hj with hj; omega)))
  · have h91z : ¬ (91000 : Int) < (bs.length : Int) := by omega
    obtain ⟨hbw3, HR3, HF3, HP3, hz3⟩ := start_is w
    obtain ⟨W3, hW3⟩ : ∃ W3, W3 = startW w := ⟨_, rfl⟩
    rw [← hW3] at hbw3 HR3 HF3 HP3 hz3
    unfold startW at hW3
    have HW3 := veil hW3
    clear hb1 HR1 hz1 hW3
    go_upto_region 6 with fail
    rw [← HW3.out]
    clear HW3
    obtain ⟨F, hF⟩ : ∃ F, F = w.heap.size + 1 := ⟨_, rfl⟩
    obtain ⟨P, hP⟩ : ∃ P, P = F + 1 := ⟨_, rfl⟩
    obtain ⟨B, hB⟩ : ∃ B, B = W3.heap.size := ⟨_, rfl⟩
    rw [show w.heap.size + 2 = w.heap.size + 1 + 1 from rfl] at HP3
    rw [← hF] at HF3 HP3 ⊢
    rw [← hP] at HP3 ⊢
    have hF1 : w.heap.size < F := by omega
    have hF2 : F < P := by omega
    have hPB : P < B := by omega
    have hO3 : Owns B [] W3 := by rw [hB]; exact Owns.start W3
    have Hst : Hid (stK bs 0 = noF) := stK_0 bs
    have HF0 : Hid (Blk W3 F (fileK (stK bs 0) (fun _ => none) (fun _ => 0) none 0) 32) := HF3
    have HP0 := veil HP3; have HR0 := veil HR3; have HO0 : Hid (Owns B (prevR (fun _ => none) (fun _ => 0) (syK bs) 0) W3) := hO3
    have Hb0 := veil hbw3
    have Hg0 : Hid (goodTo bs 0) := fun i hi => by omega
    have h91' : bs.length ≤ 91000 := by omega
    have H91 := veil h91
    clear hF hP hB hO3 HF3 HP3 HR3 hbw3 hz3 h91 Hst
    go_wp2_with fail
    go_loopg [5, 8, 9, 10, 12, 28] 2 (fun gk av tv sv kv cv iv wr => ∃ (k : Nat) (a : Nat → Option Addr) (cc : Nat → Nat), gk = 2 - k ∧ k ≤ 2 ∧ iv = .int .i64 (k : Int) ∧ av = .int .i64 ((atK bs k : Nat) : Int) ∧ atK bs k ≤ 91000 ∧ Hid (∀ i, k ≤ i → a i = none ∧ cc i = 0) ∧ Hid (goodTo bs k) ∧ Hid (Blk wr F (fileK (stK bs k) a cc none 0) 32) ∧ Hid (Blk wr P (ptrs F) 61) ∧ Hid (Blk wr w.heap.size noCells 32) ∧ Hid (Owns B (prevR a cc (syK bs) k) wr) ∧ Hid (Below w.heap.size w wr))
    case atStart => exact ⟨0, fun _ => none, fun _ => 0, rfl, by omega, rfl, rfl, by rw [atK_0]; omega, veil (fun _ _ => ⟨rfl, rfl⟩), Hg0, HF0, HP0, HR0, HO0, Hb0⟩
    case round =>
      clear Hg0 HF0 HP0 HR0 HO0 Hb0
      obtain ⟨k, a, cc, rfl, hk, rfl, rfl, hat91, Hno, Hgo, HF, HP, HR, HO, Hb⟩ := hrel
      by_cases hlt : k < 2
      · have hltz : (k : Int) < 2 := by omega
        obtain ⟨o, ho⟩ : ∃ o, o = 67 + 17 * k := ⟨_, rfl⟩
        have hcp : wr.cell? ⟨P, k, none⟩ = some (.pointer (some ⟨F, o, none⟩)) := by
          have : k = 0 ∨ k = 1 := by omega
          rcases this with rfl | rfl
          · rw [ho]; exact HP.out.cell rfl
          · rw [ho]; exact HP.out.cell rfl
        obtain ⟨at_, hat⟩ : ∃ at_, at_ = atK bs k := ⟨_, rfl⟩
        rw [← hat] at hat91 ⊢
        have Ho := veil ho; have Hat := veil hat
        clear ho hat
        by_cases hs1 : bs.length < at_ + 32
        · have hs1z : (bs.length : Int) < (at_ : Int) + 32 := by omega
          have he : eParse bs = 3 := parse_short H91.out hlt (by rw [← Hat.out]; omega)
          have HE := veil he
          clear he hs1
          go_wp2_with (first
            | (refine wpList_store_blk _ rfl 32 (.tmp 2) (.tmp 37) rfl w.heap.size noCells noCells 32 HR.out rfl rfl hnl rfl noCells_one ?_; intro w6 HB6 hg6)
            | fail)
          exact bodyPost_ret (results_row_tmp rfl _ _ w.heap.size 32 noCells.toArray (0, 0) _ (.int .i64 3) rfl rfl HB6 Try.underlying32 rfl (by simpa using hnl)) rfl (parse_bad HE.out (by decide) (Hb.out.grown hg6 Hb.out.size (fun j hj => by injection hj with hj; omega)))
        · have hs1z : ¬ (bs.length : Int) < (at_ : Int) + 32 := by omega
          have hne : 0 < bs.length := by omega
          obtain ⟨gs, os, x0, hA, hgs, _, _⟩ := (hs.int hne)
          subst hA
          have hsw : Hid (Seen w G (some ⟨gs, os, none⟩) (ints .u8 bs)) := hs
          have hcl := cntK_length bs k
          have HF1 : Hid (Blk wr F (fileK ((stK bs k).setC k (partC (cntK bs k) 0)) a cc none 0) 32) := by
            show Blk _ _ _ _
            rw [partC_0, ← stK_csT bs hlt, setC_same]; exact HF.out
          have HZ1 : Hid ((0 : Int) = sumW ((cntK bs k).take 0)) := by show _ = _; simp [sumW]
          have Hcl := veil hcl
          have Hby := veil hby
          have hlen32 : at_ + 32 ≤ bs.length := by omega
          clear hs1 hs hcl hby HF
          go_wp2_with fail
          clear hcp hs1z
          go_loopg [9, 10, 38] 16 (fun gk sv kv iv wr => ∃ (j : Nat) (z : Int), gk = 16 - j ∧ j ≤ 16 ∧ iv = .int .i64 (j : Int) ∧ sv = .int .i64 z ∧ Hid (z = sumW ((cntK bs k).take j)) ∧ 0 ≤ z ∧ z ≤ 65535 * j ∧ Hid (Blk wr F (fileK ((stK bs k).setC k (partC (cntK bs k) j)) a cc none 0) 32) ∧ Hid (Blk wr P (ptrs F) 61) ∧ Hid (Blk wr w.heap.size noCells 32) ∧ Hid (Owns B (prevR a cc (syK bs) k) wr) ∧ Hid (Below w.heap.size w wr))
          case atStart => exact ⟨0, 0, rfl, by omega, rfl, rfl, HZ1, by omega, by omega, HF1, HP, HR, HO, Hb⟩
          case round =>
            clear HZ1 HF1 HP HR HO Hb
            obtain ⟨j, z, rfl, hj, rfl, rfl, HZ, hz0, hz1, HF, HP, HR, HO, Hb⟩ := hrel
            by_cases hjt : j < 16
            · have hjz : (j : Int) < 16 := by omega
              obtain ⟨i1, hi1⟩ : ∃ i1 : Nat, i1 = at_ + 2 * j := ⟨_, rfl⟩
              obtain ⟨i2, hi2⟩ : ∃ i2 : Nat, i2 = i1 + 1 := ⟨_, rfl⟩
              obtain ⟨x, hx, hcx⟩ := byteAt (hsw.out.below Hb.out hG) (show i1 < bs.length by omega)
              obtain ⟨y, hy, hcy⟩ := byteAt (hsw.out.below Hb.out hG) (show i2 < bs.length by omega)
              have hx8 := Hby.out x (List.mem_of_getElem? hx)
              have hy8 := Hby.out y (List.mem_of_getElem? hy)
              have hxa := hx8.1; have hxb := hx8.2; have hya := hy8.1; have hyb := hy8.2
              have e1 : IntKind.i64.wrap ((at_ : Int) + IntKind.i64.wrap (2 * (j : Int))) = (i1 : Int) := by
                have e : IntKind.i64.wrap (2 * (j : Int)) = 2 * (j : Int) := by rw [IntKind.wrap_i64]; omega
                rw [e, IntKind.wrap_i64]; omega
              have e2 : IntKind.i64.wrap ((i1 : Int) + 1) = (i2 : Int) := by rw [IntKind.wrap_i64]; omega
              have e3 : IntKind.i64.wrap x = x := by rw [IntKind.wrap_i64]; omega
              have e4 : IntKind.i64.wrap y = y := by rw [IntKind.wrap_i64]; omega
              have e5 : IntKind.i64.wrap (256 * x) = 256 * x := by rw [IntKind.wrap_i64]; omega
              have e6 : IntKind.i64.wrap (256 * x + y) = 256 * x + y := by rw [IntKind.wrap_i64]; omega
              have hb1 : (i1 : Int) < (bs.length : Int) := by omega
              have hb2 : (i2 : Int) < (bs.length : Int) := by omega
              have hcnt : (cntK bs k)[j]? = some (256 * x + y) := cntK_at hjt (by rw [← Hat.out, ← hi1]; exact hx) (by rw [← Hat.out, ← hi1, ← hi2]; exact hy)
              have hform : ((stK bs k).setC k (partC (cntK bs k) j)).Form := setC_form (stK_form bs k) (partC_length Hcl.out (by omega))
              have hset := HF.out.set (o + j) (.int .i64 (256 * x + y))
              rw [Ho.out, fset_cnt hform hlt hjt, csT_setC, setC_setC, partC_next hcnt Hcl.out, ← Ho.out] at hset
              have hcell := HF.out.cell (i := o + j) (v := .int .i64 0) (by rw [Ho.out]; exact fget_cnt hform hlt (by rw [csT_setC]; exact partC_at Hcl.out hjt) (by rw [csT_setC]; exact partC_length Hcl.out (by omega)))
              have hfro := HF.out.frozen (o + j)
              have hgr := grown_setCell wr F (o + j) (.int .i64 (256 * x + y))
              clear hx hy hx8 hy8 hi1 hi2 hform
              go_upto_region 15 with fail
              go_still_tail 24, (by kernel_rfl)
              repeat still_step
              try refine wpStill_nil ?_
              change wpList _ _ _ _ _ wr.drew
              have k1' : wr.drew.cell? ⟨F, o + j, none⟩ = some (.int .i64 0) := hcell
              have f1' : wr.drew.frozen? ⟨F, o + j, none⟩ = false := hfro
              go_upto_region 16 with fail
              obtain ⟨W5, hW5⟩ : ∃ W5, W5 = (wr.setCell ⟨F, o + j, none⟩ (.int .i64 (256 * x + y))).drew := ⟨_, rfl⟩
              rw [← hW5]
              have hg5 : wr.grownBy W5 (some F) := by rw [hW5]; exact grown_below hgr (Below.refl wr.heap.size _).drew (Nat.le_refl _)
              have HF5 : Hid (Blk W5 F (fileK ((stK bs k).setC k (partC (cntK bs k) (j + 1))) a cc none 0) 32) := by rw [hW5]; exact hset
              have hcell5 := HF5.out.cell (i := o + j) (v := .int .i64 (256 * x + y)) (by
                rw [Ho.out]
                refine fget_cnt (setC_form (stK_form bs k) (partC_length Hcl.out (by omega))) hlt ?_ (by rw [csT_setC]; exact partC_length Hcl.out (by omega))
                rw [csT_setC, ← partC_next hcnt Hcl.out, List.getElem?_set_self (by rw [partC_length Hcl.out (by omega)]; exact hjt)])
              have HP5 := veil (HP.out.kept hg5 (by simp; omega))
              have HR5 := veil (HR.out.kept hg5 (by simp; omega))
              have HO5 : Hid (Owns B (prevR a cc (syK bs) k) W5) := by rw [hW5]; exact (HO.out.setCell (a := ⟨F, o + j, none⟩) (by show F < B; omega) _).drew
              have Hb5 := veil (Hb.out.grown hg5 Hb.out.size (fun q hq => by injection hq with hq; omega))
              have HZ5 : Hid (z + (256 * x + y) = sumW ((cntK bs k).take (j + 1))) := by show _ = _; rw [sumW_take hcnt, ← HZ.out]
              have e7 : IntKind.i64.wrap (z + (256 * x + y)) = z + (256 * x + y) := by rw [IntKind.wrap_i64]; omega
              clear hW5 hg5 hgr hset hcell hfro k1' f1' HP HR HO Hb HZ HF hcnt
              go_wp2_with fail
              go_roundg (16 - (j + 1))
              case rel => exact ⟨j + 1, z + (256 * x + y), rfl, by omega, by go_num, rfl, HZ5, by omega, by omega, HF5, HP5, HR5, HO5, Hb5⟩
              case measure => omega
            · obtain rfl : j = 16 := by omega
              have hz := HZ.out
              rw [List.take_of_length_le (by rw [Hcl.out]; omega)] at hz
              have hzl : z = (lenK bs k : Int) := by unfold lenK; omega
              have hF := HF.out
              rw [partC_16 Hcl.out] at hF
              obtain ⟨n, hn⟩ : ∃ n, n = lenK bs k := ⟨_, rfl⟩
              rw [← hn] at hzl
              have Hn := veil hn
              have HFc := veil hF
              subst hzl
              clear hz hF hn HF HZ
              by_cases hs2 : bs.length < at_ + 32 + n
              · have hs2z : (bs.length : Int) < (at_ : Int) + 32 + (n : Int) := by omega
                have he : eParse bs = 3 := parse_short H91.out hlt (by rw [← Hat.out, ← Hn.out]; omega)
                have HE := veil he
                clear he hs2
                go_wp2_with (first
                  | (refine wpList_store_blk _ rfl 32 (.tmp 2) (.tmp 82) rfl w.heap.size noCells noCells 32 HR.out rfl rfl hnl rfl noCells_one ?_; intro w6 HB6 hg6)
                  | fail)
                exact bodyPost_ret (results_row_tmp rfl _ _ w.heap.size 32 noCells.toArray (0, 0) _ (.int .i64 3) rfl rfl HB6 Try.underlying32 rfl (by simpa using hnl)) rfl (parse_bad HE.out (by decide) (Hb.out.grown hg6 Hb.out.size (fun j hj => by injection hj with hj; omega)))
              · have hs2z : ¬ (bs.length : Int) < (at_ : Int) + 32 + (n : Int) := by omega
                obtain ⟨p, hp⟩ : ∃ p : Nat, p = at_ + 32 := ⟨_, rfl⟩
                obtain ⟨q, hq⟩ : ∃ q : Nat, q = p + n := ⟨_, rfl⟩
                have hpz : (at_ : Int) + 32 = (p : Int) := by omega
                have hqz : (p : Int) + (n : Int) = (q : Int) := by omega
                have hsl := fun u => run_cutB_mid (some ⟨gs, os, none⟩) bs.length c p q (by omega) (by omega) u
                obtain ⟨A9, hA9, hs9⟩ := cutV_seen hsw.out (show p ≤ q by omega) (show q ≤ bs.length by omega) (show q ≤ c by omega)
                rw [hA9] at hsl
                have hqp : q - p = n := by omega
                rw [hqp] at hsl hs9
                have hS : (bs.drop p).take n = syK bs k := by unfold syK; rw [← Hat.out, ← hp, ← Hn.out]
                rw [hS] at hs9
                have hSl : (syK bs k).length = n := by rw [syK_length (by rw [← Hat.out, ← Hn.out]; omega), ← Hn.out]
                have hgk : goodTo bs (k + 1) := fun i hi => by
                  by_cases hik : i < k
                  · exact Hgo.out i hik
                  · obtain rfl : i = k := by omega
                    rw [← Hat.out, ← Hn.out]; omega
                have hnx : atK bs (k + 1) = q := by rw [atK_next, ← Hat.out, ← Hn.out]; omega
                have hstn := stK_next bs hlt
                have hS8 : ∀ x ∈ syK bs k, 0 ≤ x ∧ x ≤ 255 := fun x hx => Hby.out x (by unfold syK at hx; exact List.mem_of_mem_drop (List.mem_of_mem_take hx))
                have hn0 := (Hno.out k (Nat.le_refl _))
                have hHO : Hid (Owns B (intRow 3 .i64 (.slice none 0 0) ((syK bs k).take 0) :: prevR a cc (syK bs) k) wr) := veil (HO.out.fresh 3 1)
                have hHF : Hid (Blk wr F (fileK (((stK bs k).setC k (cntK bs k)).setS k ((syK bs k).take 0)) (turnAt a k none) (turnAt cc k 0) none 0) 32) := by
                  show Blk _ _ _ _
                  rw [turnAt_self a k hn0.1, turnAt_self cc k hn0.2]
                  have e9 : ((stK bs k).setC k (cntK bs k)).syT k = [] := by rw [syT_setC]; exact stK_syT bs hlt
                  have e8 := setS_same (f := (stK bs k).setC k (cntK bs k)) (k := k)
                  rw [e9] at e8
                  rw [List.take_zero, e8]; exact HFc.out
                have HS9 := veil hs9; have HSl := veil hSl; have Hgk := veil hgk; have Hnx := veil hnx; have Hstn := veil hstn; have HS8 := veil hS8
                have hn91 : q ≤ 91000 := by omega
                clear hs9 hS hSl hgk hnx hstn hS8 hn0 HO HFc Hgo hA9 hs2 hp hq hqp
                go_wp2_with fail
                clear hsl hs2z
                go_loopg [12, 90] n (fun gk cv iv wr => ∃ (j : Nat) (A' : Option Addr) (c' : Nat), gk = n - j ∧ j ≤ n ∧ iv = .int .i64 (j : Int) ∧ Hid (Blk wr F (fileK (((stK bs k).setC k (cntK bs k)).setS k ((syK bs k).take j)) (turnAt a k A') (turnAt cc k c') none 0) 32) ∧ Hid (Blk wr P (ptrs F) 61) ∧ Hid (Blk wr w.heap.size noCells 32) ∧ Hid (Owns B (intRow 3 .i64 (.slice A' j c') ((syK bs k).take j) :: prevR a cc (syK bs) k) wr) ∧ Hid (Below w.heap.size w wr))
                case atStart => exact ⟨0, none, 0, rfl, Nat.zero_le _, rfl, hHF, HP, HR, hHO, Hb⟩
                case round =>
                  clear hHF hHO HP HR Hb
                  obtain ⟨j, A', c', rfl, hj, rfl, HF, HP, HR, HO, Hb⟩ := hrel
                  by_cases hjt : j < n
                  · have hjz : (j : Int) < (n : Int) := by omega
                    obtain ⟨x, hx⟩ := some_at (xs := syK bs k) (j := j) (by rw [HSl.out]; exact hjt)
                    obtain ⟨g2, o2, e2, _, hcx⟩ := (HS9.out.below Hb.out hG).cell (ints_at hx)
                    subst e2
                    have hx8 := HS8.out x (List.mem_of_getElem? hx)
                    have hxa := hx8.1; have hxb := hx8.2
                    have htl : ((syK bs k).take j).length = j := by rw [List.length_take, HSl.out]; omega
                    have htl2 : ((syK bs k).take (j + 1)).length = j + 1 := by rw [List.length_take, HSl.out]; omega
                    have hform : ((((stK bs k).setC k (cntK bs k)).setS k ((syK bs k).take j))).Form := setS_form (setC_form (stK_form bs k) Hcl.out)
                    have hcs16 : ((((stK bs k).setC k (cntK bs k)).setS k ((syK bs k).take j)).csT k).length = 16 := by rw [csT_setS, csT_setC]; exact Hcl.out
                    have hk16 : wr.cell? ⟨F, o + 16, none⟩ = some (.slice A' j c') := by
                      have h9 := fget_syms (a := turnAt a k A') (c := turnAt cc k c') (A3 := none) (c3 := 0) hform hlt hcs16
                      rw [turnAt_same, turnAt_same, syT_setS, htl, ← Ho.out] at h9
                      exact HF.out.cell h9
                    have hset : ∀ (W : World) (A6 : Option Addr) (c6 : Nat), Blk W F (fileK (((stK bs k).setC k (cntK bs k)).setS k ((syK bs k).take j)) (turnAt a k A') (turnAt cc k c') none 0) 32 → Blk (W.setCell ⟨F, o + 16, none⟩ (.slice A6 (j + 1) c6)) F (fileK (((stK bs k).setC k (cntK bs k)).setS k ((syK bs k).take (j + 1))) (turnAt a k A6) (turnAt cc k c6) none 0) 32 := by
                      intro W A6 c6 h
                      have h9 := h.set (o + 16) (.slice A6 ((syK bs k).take (j + 1)).length c6)
                      rw [Ho.out, fset_syms hform hlt, setS_setS, turnAt_twice, turnAt_twice, htl2, ← Ho.out] at h9
                      exact h9
                    have Hset := veil hset
                    have htk := take_snoc hx
                    have Htk := veil htk
                    have Htl := veil htl; have Htl2 := veil htl2
                    clear hset htk htl htl2 hform hcs16 hx
                    obtain ⟨T, hT⟩ : ∃ T, T = (syK bs k).take j := ⟨_, rfl⟩
                    rw [← hT] at HO Htl Htk
                    have HT := veil hT
                    clear hT
                    go_wp2_with (first
                      | (at_builtin; go_loud (refine wpList_ownI _ rfl (.tmp 98) (.tmp 101) _ rfl B 3 .i64 8 elem_int (.slice A' j c') T _ rfl HO.out [x] rfl (by rw [Htl.out]; unfold maxLen; simp; omega) (by rw [Htl.out]; simp; omega) ?_); intro v6 w6 HO6 hb6 hz6; obtain ⟨A6, c6, hv6, _, _, _⟩ := HO6.seen (List.mem_cons_self ..); obtain rfl : v6 = .slice A6 (j + 1) c6 := (show v6 = .slice A6 (T ++ [x]).length c6 from hv6).trans (by rw [List.length_append, Htl.out]; rfl); have hF6 := HF.out.below hb6 (by omega); have k6 := (hb6.cell (show F < B by omega)).trans hk16; have f6 := hF6.frozen (o + 16); have HFs := veil (Hset.out _ A6 c6 hF6); have HO6' := veil HO6; clear hF6 hv6 HO6)
                      | fail)
                    have hgr := grown_setCell w6 F (o + 16) (.slice A6 (j + 1) c6)
                    have hHP := veil ((HP.out.below hb6 (by omega)).kept hgr (by simp; omega))
                    have hHR := veil ((HR.out.below hb6 (by omega)).kept hgr (by simp; omega))
                    have hHO := HO6'.out.setCell (a := ⟨F, o + 16, none⟩) (by show F < B; omega) (.slice A6 (j + 1) c6)
                    have hHb := veil ((Hb.out.trans (hb6.mono (by omega))).grown hgr (by have h1 := Hb.out.size; have h2 := hb6.size; omega) (fun q hq => by injection hq with hq; omega))
                    rw [← Htk.out] at hHO
                    have HHO := veil hHO
                    clear hgr hHO HO6' hb6 HF HP HR HO Hb Hset HT Htk
                    go_roundg (n - (j + 1))
                    case rel => exact ⟨j + 1, A6, c6, rfl, by omega, by go_num, HFs, hHP, hHR, HHO, hHb⟩
                    case measure => omega
                  · obtain rfl : j = n := by omega
                    have ht := List.take_of_length_le (i := j) (l := syK bs k) (by rw [HSl.out]; omega)
                    have hF := HF.out
                    have hO := HO.out
                    rw [ht] at hF hO
                    rw [Hstn.out] at hF
                    have hno2 : ∀ i, k + 1 ≤ i → turnAt a k A' i = none ∧ turnAt cc k c' i = 0 := fun i hi => by
                      rw [turnAt_not _ _ (by omega), turnAt_not _ _ (by omega)]; exact Hno.out i (by omega)
                    have HF2 := veil hF
                    have HO2 : Hid (Owns B (prevR (turnAt a k A') (turnAt cc k c') (syK bs) (k + 1)) wr) := by
                      show Owns _ _ _
                      rw [prevR, prevR_turn a cc (syK bs) A' c' k k (Nat.le_refl _), turnAt_same, turnAt_same, HSl.out]; exact hO
                    have Hno2 := veil hno2
                    clear ht hF hO hno2 HF HO
                    go_wp2_with fail
                    go_roundg (2 - (k + 1))
                    case rel => exact ⟨k + 1, turnAt a k A', turnAt cc k c', rfl, by omega, by go_num, by rw [Hnx.out]; try go_num, by rw [Hnx.out]; omega, Hno2, Hgk, HF2, HP, HR, HO2, Hb⟩
                    case measure => omega
      · obtain rfl : k = 2 := by omega
        have hns := not_short Hgo.out
        have h134 : 134 ≤ atK bs 2 ∧ atK bs 2 ≤ bs.length := by
          have h0 := Hgo.out 0 (by omega)
          have h1 := Hgo.out 1 (by omega)
          rw [atK_next]; rw [atK_0] at h0; rw [atK_next, atK_0] at h1 ⊢; omega
        have hrd := readF_is bs
        have hne : 0 < bs.length := by omega
        obtain ⟨gs, os, x0, hA, hgs, _, _⟩ := (hs.int hne)
        subst hA
        have hsw : Hid (Seen w G (some ⟨gs, os, none⟩) (ints .u8 bs)) := hs
        obtain ⟨at_, hat⟩ : ∃ at_, at_ = atK bs 2 := ⟨_, rfl⟩
        rw [← hat] at hat91 h134 hrd ⊢
        obtain ⟨x2, hx2, c2⟩ := byteAt (hsw.out.below Hb.out hG) (show 2 < bs.length by omega)
        obtain ⟨x3, hx3, c3⟩ := byteAt (hsw.out.below Hb.out hG) (show 3 < bs.length by omega)
        obtain ⟨x4, hx4, c4⟩ := byteAt (hsw.out.below Hb.out hG) (show 4 < bs.length by omega)
        obtain ⟨x5, hx5, c5⟩ := byteAt (hsw.out.below Hb.out hG) (show 5 < bs.length by omega)
        have gd : ∀ {i : Nat} {x : Int}, bs[i]? = some x → bs.getD i 0 = x := fun h => by rw [List.getD_eq_getElem?_getD, h]; rfl
        have b2 := hby x2 (List.mem_of_getElem? hx2)
        have b3 := hby x3 (List.mem_of_getElem? hx3)
        have b4 := hby x4 (List.mem_of_getElem? hx4)
        have b5 := hby x5 (List.mem_of_getElem? hx5)
        rw [gd hx2, gd hx3, gd hx4, gd hx5] at hrd
        have e2 : IntKind.i64.wrap x2 = x2 := by rw [IntKind.wrap_i64]; omega
        have e3 : IntKind.i64.wrap x3 = x3 := by rw [IntKind.wrap_i64]; omega
        have e4 : IntKind.i64.wrap x4 = x4 := by rw [IntKind.wrap_i64]; omega
        have e5 : IntKind.i64.wrap x5 = x5 := by rw [IntKind.wrap_i64]; omega
        have h5z : (5 : Int) < (bs.length : Int) := by omega
        have l2 : (2 : Int) < (bs.length : Int) := by omega
        have l3 : (3 : Int) < (bs.length : Int) := by omega
        have l4 : (4 : Int) < (bs.length : Int) := by omega
        have Hrd := veil hrd; have Hns := veil hns; have Hby := veil hby; have Hat := veil hat
        clear hrd hns hby hat hs
        have Hbx := Hb.out.size
        have C2 : Hid (∀ w', Seen w' G (some ⟨gs, os, none⟩) (ints .u8 bs) → w'.cell? ⟨gs, os + 2, none⟩ = some (.int .u8 x2)) := veil (fun w' h => by obtain ⟨y, hy, hc⟩ := byteAt h (show 2 < bs.length by omega); rw [hx2] at hy; injection hy with hy; rw [hy]; exact hc)
        have C3 : Hid (∀ w', Seen w' G (some ⟨gs, os, none⟩) (ints .u8 bs) → w'.cell? ⟨gs, os + 3, none⟩ = some (.int .u8 x3)) := veil (fun w' h => by obtain ⟨y, hy, hc⟩ := byteAt h (show 3 < bs.length by omega); rw [hx3] at hy; injection hy with hy; rw [hy]; exact hc)
        have C4 : Hid (∀ w', Seen w' G (some ⟨gs, os, none⟩) (ints .u8 bs) → w'.cell? ⟨gs, os + 4, none⟩ = some (.int .u8 x4)) := veil (fun w' h => by obtain ⟨y, hy, hc⟩ := byteAt h (show 4 < bs.length by omega); rw [hx4] at hy; injection hy with hy; rw [hy]; exact hc)
        have C5 : Hid (∀ w', Seen w' G (some ⟨gs, os, none⟩) (ints .u8 bs) → w'.cell? ⟨gs, os + 5, none⟩ = some (.int .u8 x5)) := veil (fun w' h => by obtain ⟨y, hy, hc⟩ := byteAt h (show 5 < bs.length by omega); rw [hx5] at hy; injection hy with hy; rw [hy]; exact hc)
        clear hx2 hx3 hx4 hx5 c2 c3 c4 c5
        go_upto_region 28 with fail
        refine wp_region_held_drew (S := fun w' => Seen w' G (some ⟨gs, os, none⟩) (ints .u8 bs) ∧ G ≤ w'.heap.size) (by kernel_rfl) ⟨hsw.out.below Hb.out.drew hG, by show G ≤ wr.heap.size; omega⟩ (fun hHeld0 => ?_)
        refine take_pure 0 110 (.slice (some ⟨gs, os, none⟩) bs.length c) _ rfl rfl (by kernel_rfl) (by kernel_rfl) (by kernel_rfl) (fun _ _ _ h => h) rfl (fun w' hS => by go_simp) hHeld0 rfl ?_
        refine take_pure 1 111 (.pointer (some ⟨gs, os + 2, none⟩)) _ rfl rfl (by kernel_rfl) (by kernel_rfl) (by kernel_rfl) (fun _ _ _ h => h) rfl (fun w' hS => by go_simp) hHeld0 rfl ?_
        refine take_pure 2 112 (.int .u8 x2) _ rfl rfl (by kernel_rfl) (by kernel_rfl) (by kernel_rfl) (fun _ _ _ h => h) rfl (fun w' hS => by have hc9 := C2.out w' hS.1; go_simp) hHeld0 rfl ?_
        refine take_pure 3 113 (.int .i64 x2) _ rfl rfl (by kernel_rfl) (by kernel_rfl) (by kernel_rfl) (fun _ _ _ h => h) rfl (fun w' hS => by go_simp) hHeld0 rfl ?_
        refine take_pure 4 114 (.slice (some ⟨gs, os, none⟩) bs.length c) _ rfl rfl (by kernel_rfl) (by kernel_rfl) (by kernel_rfl) (fun _ _ _ h => h) rfl (fun w' hS => by go_simp) hHeld0 rfl ?_
        refine take_pure 5 115 (.pointer (some ⟨gs, os + 3, none⟩)) _ rfl rfl (by kernel_rfl) (by kernel_rfl) (by kernel_rfl) (fun _ _ _ h => h) rfl (fun w' hS => by go_simp) hHeld0 rfl ?_
        refine take_pure 6 116 (.int .u8 x3) _ rfl rfl (by kernel_rfl) (by kernel_rfl) (by kernel_rfl) (fun _ _ _ h => h) rfl (fun w' hS => by have hc9 := C3.out w' hS.1; go_simp) hHeld0 rfl ?_
        refine take_pure 7 117 (.int .i64 x3) _ rfl rfl (by kernel_rfl) (by kernel_rfl) (by kernel_rfl) (fun _ _ _ h => h) rfl (fun w' hS => by go_simp) hHeld0 rfl ?_
        refine take_pure 8 118 (.slice (some ⟨gs, os, none⟩) bs.length c) _ rfl rfl (by kernel_rfl) (by kernel_rfl) (by kernel_rfl) (fun _ _ _ h => h) rfl (fun w' hS => by go_simp) hHeld0 rfl ?_
        refine take_pure 9 119 (.pointer (some ⟨gs, os + 4, none⟩)) _ rfl rfl (by kernel_rfl) (by kernel_rfl) (by kernel_rfl) (fun _ _ _ h => h) rfl (fun w' hS => by go_simp) hHeld0 rfl ?_
        refine take_pure 10 120 (.int .u8 x4) _ rfl rfl (by kernel_rfl) (by kernel_rfl) (by kernel_rfl) (fun _ _ _ h => h) rfl (fun w' hS => by have hc9 := C4.out w' hS.1; go_simp) hHeld0 rfl ?_
        refine take_pure 11 121 (.int .i64 x4) _ rfl rfl (by kernel_rfl) (by kernel_rfl) (by kernel_rfl) (fun _ _ _ h => h) rfl (fun w' hS => by go_simp) hHeld0 rfl ?_
        refine take_pure 12 122 (.slice (some ⟨gs, os, none⟩) bs.length c) _ rfl rfl (by kernel_rfl) (by kernel_rfl) (by kernel_rfl) (fun _ _ _ h => h) rfl (fun w' hS => by go_simp) hHeld0 rfl ?_
        refine take_pure 13 123 (.pointer (some ⟨gs, os + 5, none⟩)) _ rfl rfl (by kernel_rfl) (by kernel_rfl) (by kernel_rfl) (fun _ _ _ h => h) rfl (fun w' hS => by go_simp) hHeld0 rfl ?_
        refine take_pure 14 124 (.int .u8 x5) _ rfl rfl (by kernel_rfl) (by kernel_rfl) (by kernel_rfl) (fun _ _ _ h => h) rfl (fun w' hS => by have hc9 := C5.out w' hS.1; go_simp) hHeld0 rfl ?_
        refine take_pure 15 125 (.int .i64 x5) _ rfl rfl (by kernel_rfl) (by kernel_rfl) (by kernel_rfl) (fun _ _ _ h => h) rfl (fun w' hS => by go_simp) hHeld0 rfl ?_
        refine take_pure 16 126 (.pointer (some ⟨F, 0, none⟩)) _ rfl rfl (by kernel_rfl) (by kernel_rfl) (by kernel_rfl) (fun _ _ _ h => h) rfl (fun w' hS => by go_simp) hHeld0 rfl ?_
        have HX := HF.out
        have HS0 := hsw.out.below Hb.out hG
        have q0' := HX.cell (i := 0) (v := .int .i64 0) rfl
        have q0 : wr.drew.cell? ⟨F, 0, none⟩ = some (.int .i64 0) := q0'
        have f0 : wr.drew.frozen? ⟨F, 0, none⟩ = false := HX.frozen 0
        refine wpAnyH_ready (rs := [17]) (by kernel_rfl) (by simp) ?_
        refine AllReadyH.cons rfl (fun K hK => ?_) AllReadyH.nil
        go_simp
        obtain ⟨W5, hW5⟩ : ∃ W5, W5 = (wr.setCell ⟨F, 0, none⟩ (.int .i64 x2)).drew := ⟨_, rfl⟩
        rw [← hW5]
        have hg5 : wr.grownBy W5 (some F) := by rw [hW5]; exact grown_below (grown_setCell wr F 0 (.int .i64 x2)) (Below.refl wr.heap.size _).drew (Nat.le_refl _)
        have HX5 : Blk W5 F (fileK { stK bs 2 with wide := x2 } a cc none 0) 32 := by rw [hW5]; exact HX.set 0 (.int .i64 x2)
        have HO5 : Owns B (prevR a cc (syK bs) 2) W5 := by rw [hW5]; exact (HO.out.setCell (a := ⟨F, 0, none⟩) (by show F < B; omega) _).drew
        have hz5 : wr.heap.size ≤ W5.heap.size := hg5.size
        have HS5 := HS0.grown hg5 (by omega) (by omega)
        clear hW5 q0 q0' f0
        refine hK.out _ _ ⟨HS5, by omega⟩ (fun hHeld1 => ?_)
        clear hK K
        refine take_pure 18 127 (.pointer (some ⟨F, 1, none⟩)) _ rfl rfl (by kernel_rfl) (by kernel_rfl) (by kernel_rfl) (fun _ _ _ h => h) rfl (fun w' hS => by go_simp) hHeld1 rfl ?_
        have q5 : W5.cell? ⟨F, 1, none⟩ = some (.int .i64 0) := HX5.cell (i := 1) (v := .int .i64 0) rfl
        have f5 : W5.frozen? ⟨F, 1, none⟩ = false := HX5.frozen 1
        refine wpAnyH_ready (rs := [19]) (by kernel_rfl) (by simp) ?_
        refine AllReadyH.cons rfl (fun K hK => ?_) AllReadyH.nil
        go_simp
        obtain ⟨W6, hW6⟩ : ∃ W6, W6 = W5.setCell ⟨F, 1, none⟩ (.int .i64 x3) := ⟨_, rfl⟩
        rw [← hW6]
        have hg6 : W5.grownBy W6 (some F) := by rw [hW6]; exact grown_setCell W5 F 1 (.int .i64 x3)
        have HX6 : Blk W6 F (fileK { stK bs 2 with wide := x2, high := x3 } a cc none 0) 32 := by
          rw [hW6]
          have h9 := HX5.set 1 (.int .i64 x3)
          rw [fset_high] at h9
          exact h9
        have HO6 : Owns B (prevR a cc (syK bs) 2) W6 := by rw [hW6]; exact HO5.setCell (a := ⟨F, 1, none⟩) (by show F < B; omega) _
        have hz6 : W5.heap.size ≤ W6.heap.size := hg6.size
        have HS6 := HS5.grown hg6 (by omega) (by omega)
        clear hW6 q5 f5 HX5 HO5 HS5
        refine hK.out _ _ ⟨HS6, by omega⟩ (fun hHeld2 => ?_)
        clear hK K
        refine take_pure 20 128 (.pointer (some ⟨F, 2, none⟩)) _ rfl rfl (by kernel_rfl) (by kernel_rfl) (by kernel_rfl) (fun _ _ _ h => h) rfl (fun w' hS => by go_simp) hHeld2 rfl ?_
        have q6 : W6.cell? ⟨F, 2, none⟩ = some (.int .i64 0) := HX6.cell (i := 2) (v := .int .i64 0) rfl
        have f6 : W6.frozen? ⟨F, 2, none⟩ = false := HX6.frozen 2
        refine wpAnyH_ready (rs := [21]) (by kernel_rfl) (by simp) ?_
        refine AllReadyH.cons rfl (fun K hK => ?_) AllReadyH.nil
        go_simp
        obtain ⟨W7, hW7⟩ : ∃ W7, W7 = W6.setCell ⟨F, 2, none⟩ (.int .i64 x4) := ⟨_, rfl⟩
        rw [← hW7]
        have hg7 : W6.grownBy W7 (some F) := by rw [hW7]; exact grown_setCell W6 F 2 (.int .i64 x4)
        have HX7 : Blk W7 F (fileK { stK bs 2 with wide := x2, high := x3, parts := x4 } a cc none 0) 32 := by
          rw [hW7]
          have h9 := HX6.set 2 (.int .i64 x4)
          rw [fset_parts] at h9
          exact h9
        have HO7 : Owns B (prevR a cc (syK bs) 2) W7 := by rw [hW7]; exact HO6.setCell (a := ⟨F, 2, none⟩) (by show F < B; omega) _
        have hz7 : W6.heap.size ≤ W7.heap.size := hg7.size
        have HS7 := HS6.grown hg7 (by omega) (by omega)
        clear hW7 q6 f6 HX6 HO6 HS6
        refine hK.out _ _ ⟨HS7, by omega⟩ (fun hHeld3 => ?_)
        clear hK K
        refine take_pure 22 129 (.pointer (some ⟨F, 101, none⟩)) _ rfl rfl (by kernel_rfl) (by kernel_rfl) (by kernel_rfl) (fun _ _ _ h => h) rfl (fun w' hS => by go_simp) hHeld3 rfl ?_
        have q7 : W7.cell? ⟨F, 101, none⟩ = some (.int .i64 0) := HX7.cell (i := 101) (v := .int .i64 0) (by exact fget_every (f := { stK bs 2 with wide := x2, high := x3, parts := x4 }) ⟨(stK_form bs 2).q, (stK_form bs 2).cs, (stK_form bs 2).cs2⟩)
        have f7 : W7.frozen? ⟨F, 101, none⟩ = false := HX7.frozen 101
        refine wpAnyH_ready (rs := [23]) (by kernel_rfl) (by simp) ?_
        refine AllReadyH.cons rfl (fun K hK => ?_) AllReadyH.nil
        go_simp
        obtain ⟨W8, hW8⟩ : ∃ W8, W8 = W7.setCell ⟨F, 101, none⟩ (.int .i64 x5) := ⟨_, rfl⟩
        rw [← hW8]
        have hg8 : W7.grownBy W8 (some F) := by rw [hW8]; exact grown_setCell W7 F 101 (.int .i64 x5)
        have HX8 : Blk W8 F (fileK { stK bs 2 with wide := x2, high := x3, parts := x4, every := x5 } a cc none 0) 32 := by
          rw [hW8]
          have h9 := HX7.set 101 (.int .i64 x5)
          rw [fset_every (f := { stK bs 2 with wide := x2, high := x3, parts := x4 }) ⟨(stK_form bs 2).q, (stK_form bs 2).cs, (stK_form bs 2).cs2⟩] at h9
          exact h9
        have HO8 : Owns B (prevR a cc (syK bs) 2) W8 := by rw [hW8]; exact HO7.setCell (a := ⟨F, 101, none⟩) (by show F < B; omega) _
        have hz8 : W7.heap.size ≤ W8.heap.size := hg8.size
        have HS8 := HS7.grown hg8 (by omega) (by omega)
        clear hW8 q7 f7 HX7 HO7 HS7
        refine hK.out _ _ ⟨HS8, by omega⟩ (fun hHeld4 => ?_)
        clear hK K
        refine wpAnyH_done (by kernel_rfl) ?_ _
        have hgg : wr.grownBy W8 (some F) := ((hg5.trans hg6).trans hg7).trans hg8
        have HP8 := HP.out.kept hgg (by simp; omega)
        have HR8 := HR.out.kept hgg (by simp; omega)
        have Hb8 := Hb.out.grown hgg Hb.out.size (fun q hq => by injection hq with hq; omega)
        clear hHeld0 hHeld1 hHeld2 hHeld3 hHeld4 hg5 hg6 hg7 hg8 hgg HP HR HO HF Hb HX HS0 C2 C3 C4 C5
        go_upto_region 29 with fail
        obtain ⟨st, hst⟩ : ∃ st : FileL, st = { stK bs 2 with wide := x2, high := x3, parts := x4, every := x5 } := ⟨_, rfl⟩
        rw [← hst] at HX8
        have hsf : st.Form := by rw [hst]; exact ⟨(stK_form bs 2).q, (stK_form bs 2).cs, (stK_form bs 2).cs2⟩
        obtain ⟨Q, hQ⟩ : ∃ Q, Q = (bs.drop 6).take 64 := ⟨_, rfl⟩
        have hsq : st.q = fromK Q 0 := by rw [hst, fromK_zero]; rfl
        have hr2 : readF bs = { st with q := fromK Q 64, data := bs.drop at_ } := by rw [Hrd.out, hst, hQ]
        have hQat : ∀ i, i < 64 → ∀ x, bs[6 + i]? = some x → Q[i]? = some x := fun i hi x h => by rw [hQ, List.getElem?_take, if_pos hi, List.getElem?_drop]; exact h
        have HZo := veil (refOrder_any W8)
        have HX8' : Hid (Blk W8 F (fileK { st with q := fromK Q 0 } a cc none 0) 32) := by
          show Blk _ _ _ _
          rw [← hsq]; exact HX8
        have Hsf := veil hsf; have Hr2 := veil hr2; have HQat := veil hQat
        have HO8' := veil HO8; have HP8' := veil HP8; have HR8' := veil HR8; have Hb8' := veil Hb8; have HS8' := veil HS8
        have hz8 : B ≤ W8.heap.size := HO8.base
        clear hst hsf hQ hsq hr2 hQat HX8 HO8 HP8 HR8 Hb8 HS8 Hrd
        go_wp2_with fail
        refine HZo.out.mono ?_
        rintro e w9 ⟨gz, cz, rfl, HOz, hb9⟩
        have hz9 := hb9.size
        have HXa := veil (HX8'.out.below hb9 (by omega))
        have HOa := veil (HO8'.out.below hb9)
        have HRa := veil (HR8'.out.below hb9 (by omega))
        have Hba := veil (Hb8'.out.trans (hb9.mono (by omega)))
        have HSa := veil (HS8'.out.below hb9 (by omega))
        have HOz' := veil HOz
        have HG0 : Hid (w9.grownBy w9 (some F)) := World.grownBy.refl _ _
        clear HX8' HO8' HR8' HP8' Hb8' HS8' hb9 HZo HOz
        go_wp2_with fail
        go_loopg [13, 14, 132] 64 (fun gk iv pv xv wr => ∃ k : Nat, gk = 64 - k ∧ k ≤ 64 ∧ xv = .int .i64 (k : Int) ∧ Hid (Blk wr F (fileK { st with q := fromK Q k } a cc none 0) 32) ∧ Hid (w9.grownBy wr (some F)))
        case atStart => exact ⟨0, rfl, by omega, rfl, HXa, HG0⟩
        case round =>
          clear HXa HG0
          obtain ⟨k, rfl, hk, rfl, HX, HG⟩ := hrel
          by_cases hlt : k < 64
          · have hltz : (k : Int) < 64 := by omega
            have hzg := HG.out.size
            obtain ⟨⟨n, hn64⟩, hn, _⟩ := zz_at ⟨k, hlt⟩
            simp only at hn
            have hnz : (n : Int) < 64 := by omega
            have hcn := zz_cellK (zz_form (HOz'.out.kept HG.out (by omega))).1 hn
            obtain ⟨i1, hi1⟩ : ∃ i1 : Nat, i1 = 6 + k := ⟨_, rfl⟩
            have hi1z : (6 : Int) + (k : Int) = (i1 : Int) := by omega
            have hi1b : (i1 : Int) < (bs.length : Int) := by omega
            obtain ⟨x, hx, hcx⟩ := byteAt (HSa.out.grown HG.out (by omega) (by omega)) (show i1 < bs.length by omega)
            have hx8 := Hby.out x (List.mem_of_getElem? hx)
            have hxa := hx8.1; have hxb := hx8.2
            have hqx := HQat.out k hlt x (by rw [← hi1]; exact hx)
            have hsf2 : ({ st with q := fromK Q k } : FileL).Form := ⟨fromK_length _ _, Hsf.out.cs, Hsf.out.cs2⟩
            obtain ⟨y, hy⟩ := some_at (xs := fromK Q k) (j := n) (by rw [fromK_length]; omega)
            have hcy := HX.out.cell (fget_q (f := { st with q := fromK Q k }) hsf2 hy)
            have hfy := HX.out.frozen (3 + n)
            have hset := HX.out.set (3 + n) (.int .i64 x)
            rw [fset_q (f := { st with q := fromK Q k }) hsf2 hn64] at hset
            have hset2 : Hid (Blk (wr.setCell ⟨F, 3 + n, none⟩ (.int .i64 x)) F (fileK { st with q := fromK Q (k + 1) } a cc none 0) 32) := by
              show Blk _ _ _ _
              rw [fromK_next hlt hn hqx]; exact hset
            have HG5 := veil (HG.out.trans (grown_setCell wr F (3 + n) (.int .i64 x)))
            clear hset hx hqx hy hi1 HX HG hn hsf2
            go_wp2_with fail
            go_roundg (64 - (k + 1))
            case rel => exact ⟨k + 1, rfl, by omega, by go_num, hset2, HG5⟩
            case measure => omega
          · obtain rfl : k = 64 := by omega
            have hzg := HG.out.size
            have HOb := veil (HOa.out.kept HG.out (by omega))
            have HRb := veil (HRa.out.kept HG.out (by simp; omega))
            have Hbb := veil (Hba.out.grown HG.out Hba.out.size (fun q hq => by injection hq with hq; omega))
            have HSb := veil (HSa.out.grown HG.out (by omega) (by omega))
            have hsl := fun u => run_cutB_end (some ⟨gs, os, none⟩) bs.length c at_ (by omega) u
            obtain ⟨A9, hA9, hs9⟩ := cutB_drop HSb.out (show at_ ≤ bs.length by omega) hcap
            rw [hA9] at hsl
            obtain ⟨D, hD⟩ : ∃ D, D = bs.drop at_ := ⟨_, rfl⟩
            rw [← hD] at hsl hs9 Hr2
            have HDl : Hid (D.length ≤ 91000) := by show _ ≤ _; rw [hD, List.length_drop]; omega
            have HDb : Hid (Bytes D) := fun x hx => Hby.out x (by rw [hD] at hx; exact List.mem_of_mem_drop hx)
            have HC := veil (copyB_any A9 (c - at_) G D wr hs9 (by have := HDl.out; omega) (by omega))
            have HD : Hid (D = bs.drop (atK bs 2)) := by show _ = _; rw [hD, Hat.out]
            clear hs9 hA9 HOa HRa Hba HSa HOz' HG hD
            go_wp2_with fail
            refine HC.out.mono ?_
            rintro e wc ⟨vd, rfl, HOd, hbc⟩
            obtain ⟨Ad, cd, hvd, hsd, hcd, _⟩ := HOd.seen (List.mem_cons_self ..)
            obtain rfl : vd = .slice Ad D.length cd := hvd
            have hzc := hbc.size
            have hsf5 : ({ st with q := fromK Q 64 } : FileL).Form := ⟨fromK_length _ _, Hsf.out.cs, Hsf.out.cs2⟩
            have hXc := HX.out.below hbc (by omega)
            have hcd0 := hXc.cell (fget_data (f := { st with q := fromK Q 64 }) (a := a) (c := cc) hsf5)
            have hfd0 := hXc.frozen 102
            have hset := hXc.set 102 (.slice Ad D.length cd)
            rw [fset_data (f := { st with q := fromK Q 64 }) hsf5, ← Hr2.out] at hset
            have hgc := grown_setCell wc F 102 (.slice Ad D.length cd)
            have HOc := veil (((HOb.out.call hbc HOd).kept hgc (by omega)))
            have HRc := veil ((HRb.out.below hbc (by omega)).kept hgc (by simp; omega))
            have Hbc := veil ((Hbb.out.trans (hbc.mono (by omega))).grown hgc (by omega) (fun q hq => by injection hq with hq; omega))
            have HSc := veil ((HSb.out.below hbc (by omega)).grown hgc (by omega) (by omega))
            have hzs : (wc.setCell ⟨F, 102, none⟩ (.slice Ad D.length cd)).heap.size = wc.heap.size := by simp [World.setCell]
            have Hset := veil hset
            have HFi := veil (fileIn_read Hby.out HD.out HOc.out)
            clear hXc hset hgc HOb HRb Hbb HSb HX HC HOd hsd hbc
            go_upto_region 35 with fail
            obtain ⟨W6, hW6⟩ : ∃ W6, W6 = wc.setCell ⟨F, 102, none⟩ (.slice Ad D.length cd) := ⟨_, rfl⟩
            rw [← hW6] at Hset HOc HRc Hbc HSc HFi hzs ⊢
            clear hW6 hcd0 hfd0
            have hK103 : (fileK (readF bs) a cc Ad cd).length = 103 := fileCells_length (readF_form bs) _ _ _ _ _ _
            have HiK := veil (info_file hK103)
            have hrg := Hset.out.range
            have HPa := veil (refFilePack_any (readF bs) (a 0) (cc 0) (a 1) (cc 1) Ad cd W6.heap.size W6 HFi.out (Nat.le_refl _))
            have Hone := veil (fileK_one (f := readF bs) (a := a) (c := cc) (A3 := Ad) (c3 := cd))
            have HFv : Hid (fileV (readF bs) (a 0) (cc 0) (a 1) (cc 1) Ad cd = .agg (fileK (readF bs) a cc Ad cd).toArray) := rfl
            rw [HFv.out] at HPa
            have HDone := veil (fun w' (he : eParse bs = 0) (hf : FileIn (readF bs) (a 0) (cc 0) (a 1) (cc 1) Ad cd w'.heap.size w') (hb : Below w.heap.size w w') (h1 : freshA B (a 0)) (h2 : freshA B (a 1)) (h3 : freshA B Ad) => parse_done (w := w) (a := a) (cc := cc) he hf hb (fresh_down h1 (by omega)) (fresh_down h2 (by omega)) (fresh_down h3 (by omega)))
            have hK103' := veil hK103
            clear hK103
            obtain ⟨xs, hxs⟩ : ∃ xs, xs = fileK (readF bs) a cc Ad cd := ⟨_, rfl⟩
            rw [← hxs] at Hset HiK hrg HPa Hone HDone hK103'
            clear hxs HFv
            go_wp2_with (first
              | (refine wpList_load_mid rfl 32 (.tmp 4) rfl F 0 rfl xs _ hrg Try.underlying32 rfl HiK.out ?_)
              | fail)
            refine HPa.out.mono ?_
            rintro e w7 ⟨v7, rfl, HO7, hb7⟩
            have hz7 := hb7.size
            have HOe := veil (HOc.out.below hb7)
            have HRe := veil (HRc.out.below hb7 (by omega))
            have Hbe := veil (Hbc.out.trans (hb7.mono (by omega)))
            have HSe := veil ((HSc.out.below hb7 (by omega)).up (show G ≤ w7.heap.size by omega))
            have Hrg7 := veil (range_below hrg hb7 (by omega))
            clear hrg HPa hb7 HOc HRc Hbc HSc Hset HFi
            by_cases h0 : eFile (readF bs) = 0
            · rw [h0]
              obtain ⟨A7, c7, hv7, hs7, _, _⟩ := HO7.seen (List.mem_cons_self ..)
              obtain ⟨M, hM⟩ : ∃ M, M = oPack (readF bs) := ⟨_, rfl⟩
              rw [← hM] at hs7 hv7
              obtain rfl : v7 = .slice A7 M.length c7 := hv7
              have hM2 : M = packF (readF bs) := by rw [hM]; exact if_pos h0
              have hMl : M.length ≤ 91000 := by rw [hM2]; have := pack_long (readF_form bs) h0; omega
              have hs7' : Seen w7 w7.heap.size A7 (ints .u8 M) := hs7
              have HEq := veil (eqByte A7 (some ⟨gs, os, none⟩) c7 c w7.heap.size M bs w7 hs7' HSe.out (by unfold maxLen; omega) (by unfold maxLen; omega))
              have HM2 := veil hM2; have H0 := veil h0
              clear hs7 hs7' hM hM2 h0 HO7
              go_wp2_with fail
              refine HEq.out.mono ?_
              rintro e w8 ⟨rfl, hw8⟩
              have hw8' : w7 = w8 := hw8
              subst w8
              clear HEq
              by_cases hE : M = bs
              · have he := parse_good H91.out Hns.out ⟨H0.out, by rw [← HM2.out]; exact hE⟩
                have HE := veil he
                have hd : decide (M = bs) = true := decide_eq_true hE
                rw [hd]
                clear he hE hd
                have hrg7 := Hrg7.out
                go_wp2_with (first
                  | (refine wpList_load_mid rfl 32 (.tmp 4) rfl F 0 rfl xs _ hrg7 Try.underlying32 rfl HiK.out ?_)
                  | (refine wpList_store_blk _ rfl 32 (.tmp 2) (.tmp 166) rfl w.heap.size noCells xs 32 HRe.out rfl rfl HiK.out (by rw [hK103'.out]; exact noCells_length) Hone.out ?_; intro w10 HB10 hg10)
                  | fail)
                exact bodyPost_ret (results_row_tmp rfl _ _ w.heap.size 32 xs.toArray (0, 0) _ (.int .i64 0) rfl rfl HB10 Try.underlying32 rfl (by simpa using HiK.out)) rfl (HDone.out w10 HE.out (fileIn_read Hby.out HD.out (HOe.out.kept hg10 (by omega))) (Hbe.out.grown hg10 Hbe.out.size (fun j hj => by injection hj with hj; omega)) (fresh_read HOe.out).1 (fresh_read HOe.out).2.1 (fresh_read HOe.out).2.2)
              · have he := parse_form H91.out Hns.out (fun h => hE (by rw [HM2.out]; exact h.2))
                have HE := veil he
                have hd : decide (M = bs) = false := decide_eq_false hE
                rw [hd]
                clear he hE hd
                go_wp2_with (first
                  | (refine wpList_store_blk _ rfl 32 (.tmp 2) (.tmp 165) rfl w.heap.size noCells noCells 32 HRe.out rfl rfl hnl rfl noCells_one ?_; intro w10 HB6 hg6)
                  | fail)
                exact bodyPost_ret (results_row_tmp rfl _ _ w.heap.size 32 noCells.toArray (0, 0) _ (.int .i64 4) rfl rfl HB6 Try.underlying32 rfl (by simpa using hnl)) rfl (parse_bad HE.out (by decide) (Hbe.out.grown hg6 Hbe.out.size (fun j hj => by injection hj with hj; omega)))
            · have he := parse_form H91.out Hns.out (fun h => h0 h.1)
              have HE := veil he
              have hne : (eFile (readF bs) != 0) = true := by simpa using h0
              obtain ⟨er, her⟩ : ∃ er, er = eFile (readF bs) := ⟨_, rfl⟩
              rw [← her] at hne ⊢
              clear he h0 her
              go_wp2_with (first
                | (refine wpList_store_blk _ rfl 32 (.tmp 2) (.tmp 165) rfl w.heap.size noCells noCells 32 HRe.out rfl rfl hnl rfl noCells_one ?_; intro w10 HB6 hg6)
                | fail)
              exact bodyPost_ret (results_row_tmp rfl _ _ w.heap.size 32 noCells.toArray (0, 0) _ (.int .i64 4) rfl rfl HB6 Try.underlying32 rfl (by simpa using hnl)) rfl (parse_bad HE.out (by decide) (Hbe.out.grown hg6 Hbe.out.size (fun j hj => by injection hj with hj; omega)))
end Go.Proofs.Ytmdjhbkpekepgaa

/- The reference's comparison of two lists of numbers tells whether they are equal. -/
namespace Go.Proofs.Ytmdjhbkpekepgaa
open Go.RowKit
set_option linter.unusedVariables false
set_option linter.unusedSimpArgs false
set_option maxRecDepth 100000

set_option maxHeartbeats 400000 in
theorem eqInt (A B : Option Addr) (c d G : Nat) (xs ys : List Int) (w : World) (hx : Seen w G A (ints .i64 xs)) (hy : Seen w G B (ints .i64 ys)) (hlx : xs.length ≤ maxLen) (hly : ys.length ≤ maxLen) :
    Calls Try.prog 45 #[.slice A xs.length c, .slice B ys.length d] w fun e w' => e = .returned (.bool (decide (xs = ys))) ∧ w = w' := by
  unfold maxLen at hlx hly
  by_cases hl : xs.length = ys.length
  · have hne : ((xs.length : Int) != (ys.length : Int)) = false := by simp [hl]
    have Hl := veil hl
    clear hl
    go_enter Try.func45, Try.ntmps45
    go_wp2
    go_loop [5, 6, 14] (fun _ _ i => ∃ k : Nat, k ≤ xs.length ∧ i = .int .i64 k ∧ Hid (xs.take k = ys.take k)) (fun _ _ i => xs.length - (intOf i).toNat)
    case atStart => exact ⟨0, Nat.zero_le _, rfl, veil rfl⟩
    case round =>
      obtain ⟨k, hk, rfl, He⟩ := hrel
      by_cases hlt : k < xs.length
      · have hky : (k : Int) < (ys.length : Int) := by have := Hl.out; omega
        obtain ⟨g, o, x, rfl, _, hxk, h1⟩ := hx.int hlt
        obtain ⟨g', o', y, rfl, _, hyk, h2⟩ := hy.int (k := k) (by omega)
        have Hx := veil hxk; have Hy := veil hyk
        clear hxk hyk
        by_cases hxy : x = y
        · obtain rfl := hxy
          have hb : (x != x) = false := by simp
          go_wp2
          go_round
          case rel => exact ⟨k + 1, by omega, by go_num, veil (by rw [take_snoc Hx.out, take_snoc Hy.out, He.out])⟩
          case measure => simp [intOf]; omega
        · have hb : (x != y) = true := by simpa using hxy
          go_wp2
          go_ret
          refine ⟨ret_bool ?_, rfl⟩
          symm
          simp only [decide_eq_false_iff_not]
          intro e
          have h3 := Hx.out
          rw [e, Hy.out] at h3
          exact hxy (by injection h3 with h3; exact h3.symm)
      · go_wp2
        go_ret
        refine ⟨ret_bool ?_, rfl⟩
        symm
        have h3 := He.out
        rw [List.take_of_length_le (by omega), List.take_of_length_le (by have := Hl.out; omega)] at h3
        simpa using h3
  · have hne : ((xs.length : Int) != (ys.length : Int)) = true := by simp; omega
    have hd : decide (xs = ys) = false := by simp; intro e; exact hl (by rw [e])
    have Hd := veil hd
    clear hd hl
    go_enter Try.func45, Try.ntmps45
    go_wp2
    go_ret
    exact ⟨ret_bool Hd.out.symm, rfl⟩
end Go.Proofs.Ytmdjhbkpekepgaa

/- The reference's TableEq tells whether two tables are equal. -/
namespace Go.Proofs.Ytmdjhbkpekepgaa
open Go.RowKit
set_option linter.unusedVariables false
set_option linter.unusedSimpArgs false
set_option maxRecDepth 100000

theorem ext16 {cs ds : List Int} (hc : cs.length = 16) (hd : ds.length = 16) : (∀ i ∈ List.range 16, cs[i]? = ds[i]?) ↔ cs = ds := by
  constructor
  · intro h
    apply List.ext_getElem?
    intro i
    by_cases hi : i < 16
    · exact h i (List.mem_range.2 hi)
    · rw [List.getElem?_eq_none (by omega), List.getElem?_eq_none (by omega)]
  · rintro rfl i _; rfl
/-- Two arrays of 16 numbers compared. -/
theorem arr_eql (cs ds : List Int) (hc : cs.length = 16) (hd : ds.length = 16) (u : World) : (binOp .eql 24 (.agg (ints .i64 cs).toArray) (.agg (ints .i64 ds).toArray)).run Try.prog u = .ok (.bool (decide (cs = ds))) u := by
  cases hi : Try.prog.info? 3 with
  | none => have : (Try.prog.info? 3).isSome = true := by kernel_rfl
            rw [hi] at this; cases this
  | some inf =>
    have hc1 : Try.prog.cellsOf 3 = 1 := by kernel_rfl
    rw [run_eql_struct u 24, show (10000 : Nat) = 9998 + 1 + 1 from rfl, run_equalIn_array u (9998 + 1) _ _ Try.underlying24 hi, hc1,
      run_eqItems_ints u 9998 Try.underlying3 (by kernel_rfl) cs ds (List.range 16) (fun i hi => by have := List.mem_range.1 hi; omega)]
    simp only [Result.andThen_ok]
    exact congrArg (fun b => Result.ok (Value.bool b) u) (decide_eq_decide.2 (ext16 hc hd))
set_option maxRecDepth 100000 in
set_option maxHeartbeats 2000000 in
theorem tabEq_any (cs syms : List Int) (A : Option Addr) (c : Nat) (cs2 syms2 : List Int) (A2 : Option Addr) (c2 G : Nat) (w : World)
    (hcs : cs.length = 16) (hn : syms.length ≤ maxLen) (hs : Seen w G A (ints .i64 syms)) (hcs2 : cs2.length = 16) (hn2 : syms2.length ≤ maxLen) (hs2 : Seen w G A2 (ints .i64 syms2)) (hG : G ≤ w.heap.size) :
    Calls Try.prog 33 #[tabV cs A syms.length c, tabV cs2 A2 syms2.length c2] w fun e w' => e = .returned (.bool (decide (cs = cs2 ∧ syms = syms2))) ∧ Below w.heap.size w w' := by
  have hr1 : ∀ (xs1 xs2 : List Value), xs1 = tabCells cs A syms.length c → ((w.alloc (.cells xs1.toArray 27)).alloc (.cells xs2.toArray 27)).rangeAt w.heap.size 0 (ints .i64 cs) := by
    intro xs1 xs2 e1
    subst e1
    exact range_below (range_left (range_new w _ _)) (below1 _ _) (by simp)
  have hr2 : ∀ (xs1 xs2 : List Value), xs2 = tabCells cs2 A2 syms2.length c2 → ((w.alloc (.cells xs1.toArray 27)).alloc (.cells xs2.toArray 27)).rangeAt (w.heap.size + 1) 0 (ints .i64 cs2) := by
    intro xs1 xs2 e2
    subst e2
    have h := range_left (range_new (w.alloc (.cells xs1.toArray 27)) (tabCells cs2 A2 syms2.length c2) 27)
    rw [World.size_alloc'] at h
    exact h
  have k1 := tabCells_last (A := A) (n := syms.length) (c := c) hcs
  have k2 := tabCells_last (A := A2) (n := syms2.length) (c := c2) hcs2
  obtain ⟨xs1, h1⟩ : ∃ xs1, xs1 = tabCells cs A syms.length c := ⟨_, rfl⟩
  obtain ⟨xs2, h2⟩ : ∃ xs2, xs2 = tabCells cs2 A2 syms2.length c2 := ⟨_, rfl⟩
  have HR1 := veil (hr1 xs1 xs2 h1)
  have HR2 := veil (hr2 xs1 xs2 h2)
  unfold tabV
  rw [← h1, ← h2]
  rw [← h1] at k1
  rw [← h2] at k2
  have d1 : ((w.alloc (.cells xs1.toArray 27)).alloc (.cells xs2.toArray 27)).cell? ⟨w.heap.size, 16, none⟩ = some (.slice A syms.length c) := by
    rw [(below1 _ _).cell (by simp), World.cell?_alloc_at _ _ _ _ rfl]; simpa using k1
  have d2 : ((w.alloc (.cells xs1.toArray 27)).alloc (.cells xs2.toArray 27)).cell? ⟨w.heap.size + 1, 16, none⟩ = some (.slice A2 syms2.length c2) := by
    rw [World.cell?_alloc_at _ _ _ _ (by simp)]; simpa using k2
  have hbb : Below w.heap.size w ((w.alloc (.cells xs1.toArray 27)).alloc (.cells xs2.toArray 27)) := below2 _ _ _
  have Hs := veil (hs.below hbb hG)
  have Hs2 := veil (hs2.below hbb hG)
  have Hbb := veil hbb
  have H1 : Hid ((ints .i64 cs).length = 16) := by show _ = _; rw [ints_length, hcs]
  have H2 : Hid ((ints .i64 cs2).length = 16) := by show _ = _; rw [ints_length, hcs2]
  have heq := arr_eql cs cs2 hcs hcs2
  have HE := veil (fun u h3 h4 => eqInt A A2 c c2 G syms syms2 u h3 h4 hn hn2)
  obtain ⟨q, hq⟩ : ∃ q, q = decide (cs = cs2) := ⟨_, rfl⟩
  rw [← hq] at heq
  obtain ⟨r, hr⟩ : ∃ r, r = decide (syms = syms2) := ⟨_, rfl⟩
  rw [← hr] at HE
  have hqr : decide (cs = cs2 ∧ syms = syms2) = (q && r) := by rw [hq, hr]; simp
  rw [hqr]
  clear hr1 hr2 k1 k2 h1 h2 hbb hs hs2 hcs hcs2 hq hr hqr
  generalize ints .i64 cs = z1 at *
  generalize ints .i64 cs2 = z2 at *
  go_enter Try.func33, Try.ntmps33
  cases q with
  | false =>
    go_wp2_with (first
      | (refine wpList_load_mid rfl 24 (.tmp 5) rfl w.heap.size 0 rfl z1 _ HR1.out Try.underlying24 rfl (by rw [H1.out]; exact info_arr) ?_)
      | (refine wpList_load_mid rfl 24 (.tmp 7) rfl (w.heap.size + 1) 0 rfl z2 _ HR2.out Try.underlying24 rfl (by rw [H2.out]; exact info_arr) ?_)
      | fail)
    go_ret
    exact ⟨rfl, Hbb.out⟩
  | true =>
    go_wp2_with (first
      | (refine wpList_load_mid rfl 24 (.tmp 5) rfl w.heap.size 0 rfl z1 _ HR1.out Try.underlying24 rfl (by rw [H1.out]; exact info_arr) ?_)
      | (refine wpList_load_mid rfl 24 (.tmp 7) rfl (w.heap.size + 1) 0 rfl z2 _ HR2.out Try.underlying24 rfl (by rw [H2.out]; exact info_arr) ?_)
      | fail)
    refine (HE.out _ Hs.out Hs2.out).mono ?_
    rintro e w2 ⟨rfl, rfl⟩
    go_wp2
    go_ret
    exact ⟨rfl, Hbb.out⟩
end Go.Proofs.Ytmdjhbkpekepgaa

/- The reference's FileEq tells whether two files are equal. -/
namespace Go.Proofs.Ytmdjhbkpekepgaa
open Go.RowKit
set_option linter.unusedVariables false
set_option linter.unusedSimpArgs false
set_option maxRecDepth 100000

/-- A long load behind a guard; the operation is looked at first. -/
theorem wpList_load_late {P : Program} {ops : Array Oper} {rest : List Oper} {op : Oper} {a : Act} {w : World} {Q : Exit → Act → World → Prop} (ty : TypeId) (x : Operand) (ho : op.op = .load ty x) (hgd : Region.wanted op (yielded ops a.tmps) = true)
    (b o : Nat) (hx : a.eval x = .pointer (some ⟨b, o, none⟩)) (cs : List Value) (d : TypeDesc) (hc : w.rangeAt b o cs)
    (hu : P.underlying ty = some d) (hd : d.isRow = true) (hi : (P.info? ty).map (·.size) = some cs.length)
    (h : wpList P ops Q rest (a.put op.dst (.agg cs.toArray)) w) : wpList P ops Q (op :: rest) a w :=
  wpList_load_long hgd ty x ho b o hx cs d hc hu hd hi h
/-- Are both the same? -/
def sameF (f g : FileL) : Bool :=
  f.wide == g.wide && (f.high == g.high && (f.parts == g.parts && (decide (f.q = g.q) && (f.every == g.every && (decide (f.cs = g.cs ∧ f.syms = g.syms) && (decide (f.cs2 = g.cs2 ∧ f.syms2 = g.syms2) && decide (f.data = g.data)))))))
theorem sameF_iff {f g : FileL} : sameF f g = true ↔ f = g := by
  unfold sameF
  constructor
  · intro h
    simp only [Bool.and_eq_true, beq_iff_eq, decide_eq_true_eq] at h
    obtain ⟨h1, h2, h3, h4, h5, ⟨h6, h7⟩, ⟨h8, h9⟩, h10⟩ := h
    cases f; cases g; simp_all
  · rintro rfl; simp
set_option maxRecDepth 100000 in
set_option maxHeartbeats 16000000 in
theorem fileEq_any (f : FileL) (A : Option Addr) (c : Nat) (A2 : Option Addr) (c2 : Nat) (A3 : Option Addr) (c3 : Nat) (g : FileL) (B : Option Addr) (d : Nat) (B2 : Option Addr) (d2 : Nat) (B3 : Option Addr) (d3 : Nat) (G : Nat) (w : World)
    (hf : FileIn f A c A2 c2 A3 c3 G w) (hg : FileIn g B d B2 d2 B3 d3 G w) (hG : G ≤ w.heap.size) :
    Calls Try.prog 16 #[fileV f A c A2 c2 A3 c3, fileV g B d B2 d2 B3 d3] w fun e w' => e = .returned (.bool (sameF f g)) ∧ Below w.heap.size w w' := by
  have hat0 := fileAt_of hf.form (range_new w (fileCells f A c A2 c2 A3 c3) 32)
  have hat1 := hat0.below (below1 _ (.cells (fileCells g B d B2 d2 B3 d3).toArray 32)) (by simp)
  have hrn := range_new (w.alloc (.cells (fileCells f A c A2 c2 A3 c3).toArray 32)) (fileCells g B d B2 d2 B3 d3) 32
  have hz1 : (w.alloc (.cells (fileCells f A c A2 c2 A3 c3).toArray 32)).heap.size = w.heap.size + 1 := by simp
  rw [hz1] at hrn
  have hat2 := fileAt_of hg.form hrn
  have hbb : Below w.heap.size w ((w.alloc (.cells (fileCells f A c A2 c2 A3 c3).toArray 32)).alloc (.cells (fileCells g B d B2 d2 B3 d3).toArray 32)) := below2 _ _ _
  have hzz : ((w.alloc (.cells (fileCells f A c A2 c2 A3 c3).toArray 32)).alloc (.cells (fileCells g B d B2 d2 B3 d3).toArray 32)).heap.size = w.heap.size + 2 := by simp
  clear hat0 hrn hz1
  obtain ⟨k1, k2, k3, hq, ht, k4, k5⟩ := hat1
  obtain ⟨m1, m2, m3, hq', ht', m4, m5⟩ := hat2
  have r1 := range_left ht
  have r2 := range_right ht
  have r1' := range_left ht'
  have r2' := range_right ht'
  rw [tabCells_length hf.form.cs] at r2
  rw [tabCells_length hg.form.cs] at r2'
  have HT1 := veil (fun W (h : FileIn f A c A2 c2 A3 c3 G W) (h' : FileIn g B d B2 d2 B3 d3 G W) hG => tabEq_any f.cs f.syms A c g.cs g.syms B d G W h.form.cs h.max h.see h'.form.cs h'.max h'.see hG)
  have HT2 := veil (fun W (h : FileIn f A c A2 c2 A3 c3 G W) (h' : FileIn g B d B2 d2 B3 d3 G W) hG => tabEq_any f.cs2 f.syms2 A2 c2 g.cs2 g.syms2 B2 d2 G W h.form.cs2 h.max2 h.see2 h'.form.cs2 h'.max2 h'.see2 hG)
  have HE := veil (fun W (h : FileIn f A c A2 c2 A3 c3 G W) (h' : FileIn g B d B2 d2 B3 d3 G W) => eqByte A3 B3 c3 d3 G f.data g.data W h.see3 h'.see3 h.max3 h'.max3)
  have heq := blk_eql f.q g.q hf.form.q hg.form.q
  have Hq : Hid ((ints .i64 f.q).length = 64) := by show _ = _; rw [ints_length, hf.form.q]
  have Hq' : Hid ((ints .i64 g.q).length = 64) := by show _ = _; rw [ints_length, hg.form.q]
  have L1 := veil (tabCells_length (A := A) (n := f.syms.length) (c := c) hf.form.cs)
  have L2 := veil (tabCells_length (A := A2) (n := f.syms2.length) (c := c2) hf.form.cs2)
  have L1' := veil (tabCells_length (A := B) (n := g.syms.length) (c := d) hg.form.cs)
  have L2' := veil (tabCells_length (A := B2) (n := g.syms2.length) (c := d2) hg.form.cs2)
  have Hf := veil (hf.below hbb hG)
  have Hg := veil (hg.below hbb hG)
  have Hbb := veil hbb
  have R1 := veil r1; have R2 := veil r2; have R1' := veil r1'; have R2' := veil r2'
  have HQ := veil hq; have HQ' := veil hq'
  unfold sameF
  unfold fileV
  unfold tabV at HT1 HT2
  unfold blkV at heq
  clear ht ht' r1 r2 r1' r2' hq hq' hf hg hbb
  generalize fileCells f A c A2 c2 A3 c3 = zs at *
  generalize fileCells g B d B2 d2 B3 d3 = zs' at *
  generalize tabCells f.cs A f.syms.length c = t1 at *
  generalize tabCells f.cs2 A2 f.syms2.length c2 = t2 at *
  generalize tabCells g.cs B g.syms.length d = t1' at *
  generalize tabCells g.cs2 B2 g.syms2.length d2 = t2' at *
  generalize ints .i64 f.q = xs at *
  generalize ints .i64 g.q = xs' at *
  generalize decide (f.q = g.q) = qb at *
  generalize decide (f.cs = g.cs ∧ f.syms = g.syms) = b1 at *
  generalize decide (f.cs2 = g.cs2 ∧ f.syms2 = g.syms2) = b2 at *
  generalize decide (f.data = g.data) = b3 at *
  generalize f.wide = wide at *
  generalize f.high = high at *
  generalize f.parts = parts at *
  generalize f.every = every at *
  generalize g.wide = wide' at *
  generalize g.high = high' at *
  generalize g.parts = parts' at *
  generalize g.every = every' at *
  obtain ⟨r, hr⟩ : ∃ r, r = (wide == wide' && (high == high' && (parts == parts' && (qb && (every == every' && (b1 && (b2 && b3))))))) := ⟨_, rfl⟩
  rw [← hr]
  have HR := veil hr
  clear hr
  generalize hW : ((w.alloc (.cells zs.toArray 32)).alloc (.cells zs'.toArray 32)) = W at k1 k2 k3 k4 k5 m1 m2 m3 m4 m5 R1 R2 R1' R2' HQ HQ' Hf Hg Hbb hzz
  have HW := veil hW
  clear hW
  go_enter Try.func16, Try.ntmps16
  go_upto_region 1 with fail
  rw [HW.out]
  clear HW
  by_cases p1 : wide = wide'
  · subst p1
    by_cases p2 : high = high'
    · subst p2
      by_cases p3 : parts = parts'
      · subst p3
        cases qb with
        | false =>
          go_wp2_with (first
            | (refine wpList_load_late 23 (.tmp 25) rfl (by kernel_rfl) w.heap.size 3 rfl xs _ HQ.out Try.underlying23 rfl (info_blkn Hq.out) ?_)
            | (refine wpList_load_late 23 (.tmp 27) rfl (by kernel_rfl) (w.heap.size + 1) 3 rfl xs' _ HQ'.out Try.underlying23 rfl (info_blkn Hq'.out) ?_)
            | fail)
          go_ret
          exact ⟨ret_bool (by rw [HR.out]; simp), Hbb.out⟩
        | true =>
          by_cases p4 : every = every'
          · subst p4
            have hT1 := HT1.out W Hf.out Hg.out (by omega)
            have HT1w := veil hT1
            clear hT1
            go_wp2_with (first
              | (refine wpList_load_late 23 (.tmp 25) rfl (by kernel_rfl) w.heap.size 3 rfl xs _ HQ.out Try.underlying23 rfl (info_blkn Hq.out) ?_)
              | (refine wpList_load_late 23 (.tmp 27) rfl (by kernel_rfl) (w.heap.size + 1) 3 rfl xs' _ HQ'.out Try.underlying23 rfl (info_blkn Hq'.out) ?_)
              | (refine wpList_load_late 27 (.tmp 40) rfl (by kernel_rfl) w.heap.size 67 rfl t1 _ R1.out Try.underlying27 rfl (by rw [L1.out]; exact info_tab) ?_)
              | (refine wpList_load_late 27 (.tmp 43) rfl (by kernel_rfl) (w.heap.size + 1) 67 rfl t1' _ R1'.out Try.underlying27 rfl (by rw [L1'.out]; exact info_tab) ?_)
              | fail)
            refine HT1w.out.mono ?_
            rintro e W1 ⟨rfl, hb1⟩
            have hbf1 := Hbb.out.trans (hb1.mono (by omega))
            have Hbf1 := veil hbf1
            have hzW := hb1.size
            have R2w := range_below R2.out hb1 (by omega)
            have R2w' := range_below R2'.out hb1 (by omega)
            have k5w := (hb1.cell (show w.heap.size < W.heap.size by omega)).trans k5
            have m5w := (hb1.cell (show w.heap.size + 1 < W.heap.size by omega)).trans m5
            have HT2w := veil (HT2.out W1 (Hf.out.below hb1 (by omega)) (Hg.out.below hb1 (by omega)) (by omega))
            have Hf1 := veil (Hf.out.below hb1 (by omega)); have Hg1 := veil (Hg.out.below hb1 (by omega))
            clear HT1w hb1 hbf1 k1 k2 k3 k4 k5 m1 m2 m3 m4 m5 R1 R1' R2 R2' HQ HQ' HT1 HT2
            cases b1 with
            | false =>
              go_wp2_with fail
              go_ret
              exact ⟨ret_bool (by rw [HR.out]; simp), Hbf1.out⟩
            | true =>
              go_wp2_with (first
                | (refine wpList_load_late 27 (.tmp 49) rfl (by kernel_rfl) w.heap.size 84 rfl t2 _ R2w Try.underlying27 rfl (by rw [L2.out]; exact info_tab) ?_)
                | (refine wpList_load_late 27 (.tmp 52) rfl (by kernel_rfl) (w.heap.size + 1) 84 rfl t2' _ R2w' Try.underlying27 rfl (by rw [L2'.out]; exact info_tab) ?_)
                | fail)
              refine HT2w.out.mono ?_
              rintro e W2 ⟨rfl, hb2⟩
              have hbf2 := Hbf1.out.trans (hb2.mono (by omega))
              have Hbf2 := veil hbf2
              have hzW2 := hb2.size
              have k5x := (hb2.cell (show w.heap.size < W1.heap.size by omega)).trans k5w
              have m5x := (hb2.cell (show w.heap.size + 1 < W1.heap.size by omega)).trans m5w
              have HEw := veil (HE.out W2 (Hf1.out.below hb2 (by omega)) (Hg1.out.below hb2 (by omega)))
              clear HT2w hb2 hbf2 k5w m5w R2w R2w' HE
              cases b2 with
              | false =>
                go_wp2_with fail
                go_ret
                exact ⟨ret_bool (by rw [HR.out]; simp), Hbf2.out⟩
              | true =>
                go_wp2_with fail
                refine HEw.out.mono ?_
                rintro e W3 ⟨rfl, hw3⟩
                subst hw3
                go_wp2_with fail
                go_ret
                exact ⟨ret_bool (by rw [HR.out]; simp), Hbf2.out⟩
          · have hd : (every == every') = false := by simpa using p4
            go_wp2_with (first
              | (refine wpList_load_late 23 (.tmp 25) rfl (by kernel_rfl) w.heap.size 3 rfl xs _ HQ.out Try.underlying23 rfl (info_blkn Hq.out) ?_)
              | (refine wpList_load_late 23 (.tmp 27) rfl (by kernel_rfl) (w.heap.size + 1) 3 rfl xs' _ HQ'.out Try.underlying23 rfl (info_blkn Hq'.out) ?_)
              | fail)
            go_ret
            exact ⟨ret_bool (by rw [HR.out, hd]; simp), Hbb.out⟩
      · have hd : (parts == parts') = false := by simpa using p3
        go_wp2
        go_ret
        exact ⟨ret_bool (by rw [HR.out, hd]; simp), Hbb.out⟩
    · have hd : (high == high') = false := by simpa using p2
      go_wp2
      go_ret
      exact ⟨ret_bool (by rw [HR.out, hd]; simp), Hbb.out⟩
  · have hd : (wide == wide') = false := by simpa using p1
    go_wp2
    go_ret
    exact ⟨ret_bool (by rw [HR.out, hd]; simp), Hbb.out⟩
end Go.Proofs.Ytmdjhbkpekepgaa
