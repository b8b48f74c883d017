/- Texts shared by the claims of this seat, in one. -/
import Derived.Test.YtbboakdfnjjddaaBd15
import Derived.Test.YtbboakdfnjjddaaBd9
import Derived.Test.YtbboakdfnjjddaaBd5
import Derived.Test.YtbboakdfnjjddaaBd14
import Derived.Test.YtbboakdfnjjddaaBd8
import Derived.Test.YtbboakdfnjjddaaBd6
import Derived.Test.YtbboakdfnjjddaaBd2
/- seg.Encode's function that takes tokens: its contract. -/
namespace Go.Proofs.Ytbboakdfnjjddaa
open Go.RowKit
set_option linter.unusedVariables false
set_option linter.unusedSimpArgs false
set_option maxRecDepth 100000

theorem allW_snoc {fw rw_ : List (Int × Nat × Nat)} {acc : List (Bool × Int × Int × Int)} {x : Bool × Int × Int × Int} : AllW fw rw_ (acc ++ [x]) ↔ AllW fw rw_ acc ∧ (symF (wsOf fw rw_ x.1) x.2.1).isSome = true := by
  unfold AllW
  constructor
  · intro h; exact ⟨fun y hy => h y (by simp [hy]), h x (by simp)⟩
  · rintro ⟨h1, h2⟩ y hy
    rcases List.mem_append.1 hy with hy | hy
    · exact h1 y hy
    · rw [List.mem_singleton.1 hy]; exact h2
theorem sym_ok {ws : List (Int × Nat × Nat)} (hpf : PF ws) {x p1 p2 : Int} (h : symF ws x = some (p1, p2)) : okF (p1, p2) := by
  obtain ⟨t, ht, _, e⟩ := symF_mem h
  have := hpf.small t ht
  simp only [fi, Prod.mk.injEq] at e
  rw [← e.1, ← e.2]
  exact (okF_nat _ _).2 ⟨by omega, this.2⟩
theorem sym_short {ws : List (Int × Nat × Nat)} (hpf : PF ws) {x p1 p2 : Int} (h : symF ws x = some (p1, p2)) : p1.toNat ≤ 16 := by
  obtain ⟨t, ht, _, e⟩ := symF_mem h
  have := hpf.small t ht
  simp only [fi, Prod.mk.injEq] at e
  omega
theorem good_ok {t0 t1 t2 : Int} (h : goodT (t0, t1, t2)) : okF (t1, t2) := by
  obtain ⟨h1, h2, h3⟩ := goodT_fit h
  simp only at h1 h2 h3
  obtain ⟨a, rfl⟩ := Int.eq_ofNat_of_zero_le h1.1
  obtain ⟨b, rfl⟩ := Int.eq_ofNat_of_zero_le h2
  unfold pw at h3
  rw [Int.toNat_natCast] at h3
  exact (okF_nat a b).2 ⟨by omega, by omega⟩
theorem MapF.kept {w w' : World} {b n g : Nat} {f : Int → Option (Int × Int)} {s : Nat} (h : MapF w b n f s) (hg : w.grownBy w' (some g)) (hn : b ≠ g) : MapF w' b n f s := by
  have hlt := h.lt
  obtain ⟨D, ⟨es, clock, h1, h2⟩, h3⟩ := h
  exact ⟨D, ⟨es, clock, by rw [hg.block b hlt (by simpa using hn)]; exact h1, h2⟩, h3⟩
theorem MapF.only {w w' : World} {b n : Nat} {F : Nat → Prop} {f : Int → Option (Int × Int)} {s : Nat} (h : MapF w b n f s) (hg : Only F w w') (hn : ¬ F b) : MapF w' b n f s := by
  have hlt := h.lt
  obtain ⟨D, ⟨es, clock, h1, h2⟩, h3⟩ := h
  exact ⟨D, ⟨es, clock, by rw [hg.block b hlt hn]; exact h1, h2⟩, h3⟩
/-- What the encoding keeps. -/
def encI (fw rw_ : List (Int × Nat × Nat)) (n1 s1 n2 s2 b1 b2 f r m g B : Nat) (W : World) (F : Nat → Prop) (acc : List (Bool × Int × Int × Int)) : Prop :=
  ∃ D P vd vp, Wr B g D P vd vp W ∧ MapF W b1 n1 (symF fw) s1 ∧ MapF W b2 n2 (symF rw_) s2 ∧ Blk W f [.map (some b1)] 62 ∧ Blk W r [.map (some b2)] 62 ∧ Blk W m [.bool (!decide (AllW fw rw_ acc))] 4 ∧
    (AllW fw rw_ acc → unpack D ++ fieldBits P = segBits fw rw_ acc) ∧ (unpack D ++ fieldBits P).length ≤ 40 * acc.length ∧ F = fun q => q = m ∨ wrF g vd vp q

set_option maxRecDepth 100000 in
set_option maxHeartbeats 4000000 in
theorem enc_true (fw rw_ : List (Int × Nat × Nat)) (n1 s1 n2 s2 b1 b2 f r m g B : Nat) (hpf : PF fw) (t : Int × Int × Int) (W : World) (F : Nat → Prop) (acc : List (Bool × Int × Int × Int)) (h : encI fw rw_ n1 s1 n2 s2 b1 b2 f r m g B W F acc) (hacc : acc.length < 25600) (hgt : goodT t) (hf : f < g) (hr : r < g) (hb1 : b1 < g) (hb2 : b2 < g) (hgm : g < m) (hmB : m < B) :
    Calls Try.prog 29 #[tokV t, .bool true, .pointer (some ⟨r, 0, none⟩), .pointer (some ⟨f, 0, none⟩), .pointer (some ⟨m, 0, none⟩), .pointer (some ⟨g, 0, none⟩)] W fun e W' => e = .returned (.tuple #[]) ∧ ∃ F', encI fw rw_ n1 s1 n2 s2 b1 b2 f r m g B W' F' (acc ++ [(true, t)]) ∧ Only F W W' ∧ ∀ q, F' q → F q ∨ W.heap.size ≤ q := by
  obtain ⟨D, P, vd, vp, hW, hM1, hM2, hf0, hr0, hm0, hbits, hlen, rfl⟩ := h
  obtain ⟨t0, t1, t2⟩ := t
  have hgl := hW.blk.lt
  have hml := hm0.lt
  have hft := fun (q : Nat) (hq : wrF g vd vp q) => hW.foot hq
  have hbk := below1 W (.cells #[.int .i64 t0, .int .i64 t1, .int .i64 t2] 56)
  have hz1 : (W.alloc (.cells #[.int .i64 t0, .int .i64 t1, .int .i64 t2] 56)).heap.size = W.heap.size + 1 := by simp
  have hM1a := hM1.below hbk (by omega)
  have hM2a := hM2.below hbk (by omega)
  have cf := (hf0.below hbk (by omega)).cell (i := 0) (v := .map (some b1)) rfl
  have cr := (hr0.below hbk (by omega)).cell (i := 0) (v := .map (some b2)) rfl
  have hB1 : Blk (W.alloc (.cells #[.int .i64 t0, .int .i64 t1, .int .i64 t2] 56)) W.heap.size [.int .i64 t0, .int .i64 t1, .int .i64 t2] 56 := Blk.new W [.int .i64 t0, .int .i64 t1, .int .i64 t2] 56
  have hgf := goodT_fit hgt
  have hwx : WF t0 := wf_of (by have := hgt.2; simp only at this; omega)
  have Hwx := veil hwx
  have Hgt := veil hgt
  have Hnm : Hid (¬ wrF g vd vp m) := fun h => by
    rcases h with h | h | h
    · omega
    · have := (hW.own.head.lt m h).1; omega
    · have := (hW.own.tail.head.lt m h).1; omega
  cases hq : symF fw t0 with
  | none =>
    have hno : ¬ AllW fw rw_ (acc ++ [(true, t0, t1, t2)]) := fun h => by
      have h2 := (allW_snoc.1 h).2
      have h3 : (symF fw t0).isSome = true := h2
      rw [hq] at h3; cases h3
    have hbk2 := below1 (W.alloc (.cells #[.int .i64 t0, .int .i64 t1, .int .i64 t2] 56)) (.cells #[.int .i64 0, .int .i64 0] 69)
    have hbk3 := hbk.trans (hbk2.mono (by omega))
    have hm3 := hm0.below hbk3 hml
    have cm := hm3.cell (i := 0) (v := .bool (!decide (AllW fw rw_ acc))) rfl
    have zm := hm3.frozen 0
    have hg3 := grown_setCell W m 0 (.bool true)
    have hzs : (W.setCell ⟨m, 0, none⟩ (.bool true)).heap.size = W.heap.size := by simp [World.setCell]
    have hbn := below2 (W.setCell ⟨m, 0, none⟩ (.bool true)) (.cells #[.int .i64 t0, .int .i64 t1, .int .i64 t2] 56) (.cells #[.int .i64 0, .int .i64 0] 69)
    have hres : Hid (∃ F', encI fw rw_ n1 s1 n2 s2 b1 b2 f r m g B (((W.setCell ⟨m, 0, none⟩ (.bool true)).alloc (.cells #[.int .i64 t0, .int .i64 t1, .int .i64 t2] 56)).alloc (.cells #[.int .i64 0, .int .i64 0] 69)) F' (acc ++ [(true, t0, t1, t2)]) ∧ Only (fun q => q = m ∨ wrF g vd vp q) W (((W.setCell ⟨m, 0, none⟩ (.bool true)).alloc (.cells #[.int .i64 t0, .int .i64 t1, .int .i64 t2] 56)).alloc (.cells #[.int .i64 0, .int .i64 0] 69)) ∧ ∀ q, F' q → (q = m ∨ wrF g vd vp q) ∨ W.heap.size ≤ q) := by
      refine ⟨fun q => q = m ∨ wrF g vd vp q, ⟨D, P, vd, vp, (hW.only (Only.of_grown hg3 (F := fun q => q = m) (fun q e => by injection e with e; exact .inl e.symm)) (fun q hq e => Hnm.out (e ▸ hq))).below hbn, (hM1.kept hg3 (by omega)).below hbn (by rw [hzs]; omega), (hM2.kept hg3 (by omega)).below hbn (by rw [hzs]; omega), (hf0.kept hg3 (by simp; omega)).below hbn (by rw [hzs]; omega), (hr0.kept hg3 (by simp; omega)).below hbn (by rw [hzs]; omega), ?_, fun h => absurd h hno, ?_, rfl⟩, ?_, fun q h => .inl h⟩
      · have := (hm0.set 0 (.bool true)).below hbn (by rw [hzs]; omega)
        rw [decide_eq_false hno]; exact this
      · have h9 : (acc ++ [(true, t0, t1, t2)]).length = acc.length + 1 := by simp
        rw [h9]; omega
      · exact (Only.of_grown hg3 (F := fun q => q = m ∨ wrF g vd vp q) (fun q e => by injection e with e; exact .inl (.inl e.symm))).trans (Only.of_below hbn (Nat.le_refl _) : Only (fun _ => False) _ _) (fun q h => h.elim)
    have Hq := veil hq
    clear hzs hbn hno hbk2 hbk3 hm3 hg3 hW hM1 hM2 hf0 hr0 hm0 hbits hlen hft hbk hgf hgt hwx hq
    unfold tokV
    go_enter Try.func29, Try.ntmps29
    go_wp2_with (first
      | (at_lookup; refine wpList_lookF _ rfl (.tmp 15) (.tmp 17) rfl b1 n1 (symF fw) s1 rfl hM1a t0 rfl Hwx.out (0, 0) false (by rw [Hq.out]; rfl) (by rw [Hq.out]; rfl) ?_)
      | fail)
    exact bodyPost_ret (results_none (fn := Try.f29) rfl _ _ _) rfl ⟨rfl, hres.out⟩
  | some p =>
    obtain ⟨p1, p2⟩ := p
    have hok := sym_ok hpf hq
    have hok2 := good_ok hgt
    have hbk2 := below1 (W.alloc (.cells #[.int .i64 t0, .int .i64 t1, .int .i64 t2] 56)) (.cells #[.int .i64 p1, .int .i64 p2] 69)
    have hbk3 := hbk.trans (hbk2.mono (by omega))
    have hW3 := hW.below hbk3
    have hDl : D.length ≤ 200000 := by rw [List.length_append, unpack_length] at hlen; omega
    have HA := veil (add_any B g D P vd vp p1 p2 _ hW3 hok (by omega))
    have hM13 := hM1.below hbk3 (by omega)
    have hM23 := hM2.below hbk3 (by omega)
    have hf3 := hf0.below hbk3 (by omega)
    have hr3 := hr0.below hbk3 (by omega)
    have hm3 := hm0.below hbk3 hml
    have hB3 := hB1.below hbk2 (by omega)
    have hz3 : ((W.alloc (.cells #[.int .i64 t0, .int .i64 t1, .int .i64 t2] 56)).alloc (.cells #[.int .i64 p1, .int .i64 p2] 69)).heap.size = W.heap.size + 2 := by simp
    have hon3 : Only (fun _ => False) W ((W.alloc (.cells #[.int .i64 t0, .int .i64 t1, .int .i64 t2] 56)).alloc (.cells #[.int .i64 p1, .int .i64 p2] 69)) := Only.of_below hbk3 (Nat.le_refl _)
    have Hq := veil hq
    have Hbits := veil hbits
    have HM13 := veil hM13; have HM23 := veil hM23; have Hf3 := veil hf3; have Hr3 := veil hr3; have Hm3 := veil hm3; have HB3 := veil hB3; have Hon3 := veil hon3; have Hft := veil hft; have Hlen := veil hlen; have Hok2 := veil hok2; have Hok := veil hok; have Hpf := veil hpf
    clear hbk2 hbk3 hW hM1 hM2 hf0 hr0 hm0 hbits hlen hft hbk hgf hgt hwx hq hok hok2 hW3 hM13 hM23 hf3 hr3 hm3 hB3 hon3 hpf
    unfold tokV
    go_enter Try.func29, Try.ntmps29
    go_wp2_with (first
      | (at_lookup; refine wpList_lookF _ rfl (.tmp 15) (.tmp 17) rfl b1 n1 (symF fw) s1 rfl hM1a t0 rfl Hwx.out (p1, p2) true (by rw [Hq.out]; rfl) (by rw [Hq.out]; rfl) ?_)
      | fail)
    refine HA.out.mono ?_
    rintro e w4 ⟨rfl, D4, P4, vd4, vp4, hW4, hb4, hon4, hsub4⟩
    have hz4 := hon4.size
    rw [hz3] at hz4 hsub4
    have hnw : ∀ q, q < g → ¬ wrF g vd vp q := fun q hq h => by have := (Hft.out q h).2; omega
    have hnw2 : ∀ q, W.heap.size ≤ q → ¬ wrF g vd vp q := fun q hq h => by have := (Hft.out q h).1; omega
    have hnm := Hnm.out
    have hT4 := hon4.blk HB3.out (hnw2 _ (Nat.le_refl _))
    have k1 := hT4.cell (i := 1) (v := .int .i64 t1) rfl
    have k2 := hT4.cell (i := 2) (v := .int .i64 t2) rfl
    have hl4 := congrArg List.length hb4
    rw [show (unpack D ++ fieldBits P ++ bitsN p1.toNat p2.toNat).length = (unpack D ++ fieldBits P).length + (bitsN p1.toNat p2.toNat).length from List.length_append, bitsN_length] at hl4
    have hp16 : p1.toNat ≤ 24 := by have := Hok.out.1; simp only at this; omega
    have hlen4 := Hlen.out
    have hD4 : D4.length ≤ 1000000 := by
      have h9 : (unpack D4 ++ fieldBits P4).length = 8 * D4.length + (fieldBits P4).length := by rw [List.length_append, unpack_length]
      omega
    have HA2 := veil (add_any B g D4 P4 vd4 vp4 t1 t2 w4 hW4 Hok2.out hD4)
    have Hnm4 : Hid (¬ wrF g vd4 vp4 m) := fun h => by
      rcases h with h | h | h
      · omega
      · have := (hW4.own.head.lt m h).1; omega
      · have := (hW4.own.tail.head.lt m h).1; omega
    have hnw4 : ∀ q, q < g → ¬ wrF g vd4 vp4 q := fun q hq h => by have := (hW4.foot h).2; omega
    have HM14 := veil (HM13.out.only hon4 (hnw _ hb1)); have HM24 := veil (HM23.out.only hon4 (hnw _ hb2)); have Hf4 := veil (hon4.blk Hf3.out (hnw _ hf)); have Hr4 := veil (hon4.blk Hr3.out (hnw _ hr)); have Hm4 := veil (hon4.blk Hm3.out hnm)
    have Hnw4 := veil hnw4; have Hon4 := veil hon4; have Hsub4 := veil hsub4; have Hb4 := veil hb4; have Hl4 := veil hl4
    have Hlen4 := veil hlen4
    clear HA hW4 hb4 hl4 hnw4 hon4 hsub4 hT4 hnm hlen4 hD4
    go_wp2_with fail
    refine HA2.out.mono ?_
    rintro e w5 ⟨rfl, D5, P5, vd5, vp5, hW5, hb5, hon5, hsub5⟩
    have hm5 := hon5.blk Hm4.out Hnm4.out
    have hiff : AllW fw rw_ (acc ++ [(true, t0, t1, t2)]) ↔ AllW fw rw_ acc := by
      rw [allW_snoc]
      have h3 : (symF fw t0).isSome = true := by rw [Hq.out]; rfl
      exact ⟨fun h => h.1, fun h => ⟨h, h3⟩⟩
    have hdec : (!decide (AllW fw rw_ (acc ++ [(true, t0, t1, t2)]))) = (!decide (AllW fw rw_ acc)) := by rw [decide_eq_decide.2 hiff]
    have hlen5 : (unpack D5 ++ fieldBits P5).length ≤ 40 * (acc ++ [(true, t0, t1, t2)]).length := by
      have h9 : (acc ++ [(true, t0, t1, t2)]).length = acc.length + 1 := by simp
      have h8 := congrArg List.length hb5
      rw [show (unpack D4 ++ fieldBits P4 ++ bitsN t1.toNat t2.toNat).length = (unpack D4 ++ fieldBits P4).length + (bitsN t1.toNat t2.toNat).length from List.length_append, bitsN_length] at h8
      have h7 : t1.toNat ≤ 12 := by have := (goodT_fit Hgt.out).1; simp only at this; omega
      have h6 := Hl4.out
      have h5 := Hlen4.out
      have h4 : p1.toNat ≤ 16 := sym_short Hpf.out Hq.out
      rw [h9]; omega
    have hbits5 : AllW fw rw_ (acc ++ [(true, t0, t1, t2)]) → unpack D5 ++ fieldBits P5 = segBits fw rw_ (acc ++ [(true, t0, t1, t2)]) := fun h => by
      have h2 := Hbits.out (hiff.1 h)
      rw [hb5, Hb4.out, h2, segBits_append, segBits_one]
      show _ = segBits fw rw_ acc ++ (symBits fw t0 ++ bitsN t1.toNat t2.toNat)
      unfold symBits
      rw [Hq.out, List.append_assoc]; rfl
    have hsub6 : ∀ q, (q = m ∨ wrF g vd5 vp5 q) → (q = m ∨ wrF g vd vp q) ∨ W.heap.size ≤ q := fun q hq => by
      rcases hq with h | h
      · exact .inl (.inl h)
      · rcases hsub5 q h with h | h
        · rcases Hsub4.out q h with h | h
          · exact .inl (.inr h)
          · right; omega
        · right; omega
    have hon6 : Only (fun q => q = m ∨ wrF g vd vp q) W w5 := ((((Hon3.out.mono (fun q h => h.elim) : Only (fun q => q = m ∨ wrF g vd vp q) W _)).trans Hon4.out (fun q h => .inl (.inr h)))).trans hon5 (fun q h => by
      rcases Hsub4.out q h with h | h
      · exact .inl (.inr h)
      · right; omega)
    have hres : Hid (∃ F', encI fw rw_ n1 s1 n2 s2 b1 b2 f r m g B w5 F' (acc ++ [(true, t0, t1, t2)]) ∧ Only (fun q => q = m ∨ wrF g vd vp q) W w5 ∧ ∀ q, F' q → (q = m ∨ wrF g vd vp q) ∨ W.heap.size ≤ q) :=
      ⟨fun q => q = m ∨ wrF g vd5 vp5 q, ⟨D5, P5, vd5, vp5, hW5, HM14.out.only hon5 (Hnw4.out _ hb1), HM24.out.only hon5 (Hnw4.out _ hb2), hon5.blk Hf4.out (Hnw4.out _ hf), hon5.blk Hr4.out (Hnw4.out _ hr), by rw [hdec]; exact hm5, hbits5, hlen5, rfl⟩, hon6, hsub6⟩
    clear hW5 hb5 hon5 hsub5 hm5 hiff hdec hlen5 hbits5 hsub6 hon6 k1 k2
    go_wp2_with fail
    go_end0
    exact ⟨rfl, hres.out⟩

set_option maxRecDepth 100000 in
set_option maxHeartbeats 4000000 in
theorem enc_false (fw rw_ : List (Int × Nat × Nat)) (n1 s1 n2 s2 b1 b2 f r m g B : Nat) (hpf : PF rw_) (t : Int × Int × Int) (W : World) (F : Nat → Prop) (acc : List (Bool × Int × Int × Int)) (h : encI fw rw_ n1 s1 n2 s2 b1 b2 f r m g B W F acc) (hacc : acc.length < 25600) (hgt : goodT t) (hf : f < g) (hr : r < g) (hb1 : b1 < g) (hb2 : b2 < g) (hgm : g < m) (hmB : m < B) :
    Calls Try.prog 29 #[tokV t, .bool false, .pointer (some ⟨r, 0, none⟩), .pointer (some ⟨f, 0, none⟩), .pointer (some ⟨m, 0, none⟩), .pointer (some ⟨g, 0, none⟩)] W fun e W' => e = .returned (.tuple #[]) ∧ ∃ F', encI fw rw_ n1 s1 n2 s2 b1 b2 f r m g B W' F' (acc ++ [(false, t)]) ∧ Only F W W' ∧ ∀ q, F' q → F q ∨ W.heap.size ≤ q := by
  obtain ⟨D, P, vd, vp, hW, hM1, hM2, hf0, hr0, hm0, hbits, hlen, rfl⟩ := h
  obtain ⟨t0, t1, t2⟩ := t
  have hgl := hW.blk.lt
  have hml := hm0.lt
  have hft := fun (q : Nat) (hq : wrF g vd vp q) => hW.foot hq
  have hbk := below1 W (.cells #[.int .i64 t0, .int .i64 t1, .int .i64 t2] 56)
  have hz1 : (W.alloc (.cells #[.int .i64 t0, .int .i64 t1, .int .i64 t2] 56)).heap.size = W.heap.size + 1 := by simp
  have hM1a := hM1.below hbk (by omega)
  have hM2a := hM2.below hbk (by omega)
  have cf := (hf0.below hbk (by omega)).cell (i := 0) (v := .map (some b1)) rfl
  have cr := (hr0.below hbk (by omega)).cell (i := 0) (v := .map (some b2)) rfl
  have hB1 : Blk (W.alloc (.cells #[.int .i64 t0, .int .i64 t1, .int .i64 t2] 56)) W.heap.size [.int .i64 t0, .int .i64 t1, .int .i64 t2] 56 := Blk.new W [.int .i64 t0, .int .i64 t1, .int .i64 t2] 56
  have hgf := goodT_fit hgt
  have hwx : WF t0 := wf_of (by have := hgt.2; simp only at this; omega)
  have Hwx := veil hwx
  have Hgt := veil hgt
  have Hnm : Hid (¬ wrF g vd vp m) := fun h => by
    rcases h with h | h | h
    · omega
    · have := (hW.own.head.lt m h).1; omega
    · have := (hW.own.tail.head.lt m h).1; omega
  cases hq : symF rw_ t0 with
  | none =>
    have hno : ¬ AllW fw rw_ (acc ++ [(false, t0, t1, t2)]) := fun h => by
      have h2 := (allW_snoc.1 h).2
      have h3 : (symF rw_ t0).isSome = true := h2
      rw [hq] at h3; cases h3
    have hbk2 := below1 (W.alloc (.cells #[.int .i64 t0, .int .i64 t1, .int .i64 t2] 56)) (.cells #[.int .i64 0, .int .i64 0] 69)
    have hbk3 := hbk.trans (hbk2.mono (by omega))
    have hm3 := hm0.below hbk3 hml
    have cm := hm3.cell (i := 0) (v := .bool (!decide (AllW fw rw_ acc))) rfl
    have zm := hm3.frozen 0
    have hg3 := grown_setCell W m 0 (.bool true)
    have hzs : (W.setCell ⟨m, 0, none⟩ (.bool true)).heap.size = W.heap.size := by simp [World.setCell]
    have hbn := below2 (W.setCell ⟨m, 0, none⟩ (.bool true)) (.cells #[.int .i64 t0, .int .i64 t1, .int .i64 t2] 56) (.cells #[.int .i64 0, .int .i64 0] 69)
    have hres : Hid (∃ F', encI fw rw_ n1 s1 n2 s2 b1 b2 f r m g B (((W.setCell ⟨m, 0, none⟩ (.bool true)).alloc (.cells #[.int .i64 t0, .int .i64 t1, .int .i64 t2] 56)).alloc (.cells #[.int .i64 0, .int .i64 0] 69)) F' (acc ++ [(false, t0, t1, t2)]) ∧ Only (fun q => q = m ∨ wrF g vd vp q) W (((W.setCell ⟨m, 0, none⟩ (.bool true)).alloc (.cells #[.int .i64 t0, .int .i64 t1, .int .i64 t2] 56)).alloc (.cells #[.int .i64 0, .int .i64 0] 69)) ∧ ∀ q, F' q → (q = m ∨ wrF g vd vp q) ∨ W.heap.size ≤ q) := by
      refine ⟨fun q => q = m ∨ wrF g vd vp q, ⟨D, P, vd, vp, (hW.only (Only.of_grown hg3 (F := fun q => q = m) (fun q e => by injection e with e; exact .inl e.symm)) (fun q hq e => Hnm.out (e ▸ hq))).below hbn, (hM1.kept hg3 (by omega)).below hbn (by rw [hzs]; omega), (hM2.kept hg3 (by omega)).below hbn (by rw [hzs]; omega), (hf0.kept hg3 (by simp; omega)).below hbn (by rw [hzs]; omega), (hr0.kept hg3 (by simp; omega)).below hbn (by rw [hzs]; omega), ?_, fun h => absurd h hno, ?_, rfl⟩, ?_, fun q h => .inl h⟩
      · have := (hm0.set 0 (.bool true)).below hbn (by rw [hzs]; omega)
        rw [decide_eq_false hno]; exact this
      · have h9 : (acc ++ [(false, t0, t1, t2)]).length = acc.length + 1 := by simp
        rw [h9]; omega
      · exact (Only.of_grown hg3 (F := fun q => q = m ∨ wrF g vd vp q) (fun q e => by injection e with e; exact .inl (.inl e.symm))).trans (Only.of_below hbn (Nat.le_refl _) : Only (fun _ => False) _ _) (fun q h => h.elim)
    have Hq := veil hq
    clear hzs hbn hno hbk2 hbk3 hm3 hg3 hW hM1 hM2 hf0 hr0 hm0 hbits hlen hft hbk hgf hgt hwx hq
    unfold tokV
    go_enter Try.func29, Try.ntmps29
    go_wp2_with (first
      | (at_lookup; refine wpList_lookF _ rfl (.tmp 15) (.tmp 17) rfl b2 n2 (symF rw_) s2 rfl hM2a t0 rfl Hwx.out (0, 0) false (by rw [Hq.out]; rfl) (by rw [Hq.out]; rfl) ?_)
      | fail)
    exact bodyPost_ret (results_none (fn := Try.f29) rfl _ _ _) rfl ⟨rfl, hres.out⟩
  | some p =>
    obtain ⟨p1, p2⟩ := p
    have hok := sym_ok hpf hq
    have hok2 := good_ok hgt
    have hbk2 := below1 (W.alloc (.cells #[.int .i64 t0, .int .i64 t1, .int .i64 t2] 56)) (.cells #[.int .i64 p1, .int .i64 p2] 69)
    have hbk3 := hbk.trans (hbk2.mono (by omega))
    have hW3 := hW.below hbk3
    have hDl : D.length ≤ 200000 := by rw [List.length_append, unpack_length] at hlen; omega
    have HA := veil (add_any B g D P vd vp p1 p2 _ hW3 hok (by omega))
    have hM13 := hM1.below hbk3 (by omega)
    have hM23 := hM2.below hbk3 (by omega)
    have hf3 := hf0.below hbk3 (by omega)
    have hr3 := hr0.below hbk3 (by omega)
    have hm3 := hm0.below hbk3 hml
    have hB3 := hB1.below hbk2 (by omega)
    have hz3 : ((W.alloc (.cells #[.int .i64 t0, .int .i64 t1, .int .i64 t2] 56)).alloc (.cells #[.int .i64 p1, .int .i64 p2] 69)).heap.size = W.heap.size + 2 := by simp
    have hon3 : Only (fun _ => False) W ((W.alloc (.cells #[.int .i64 t0, .int .i64 t1, .int .i64 t2] 56)).alloc (.cells #[.int .i64 p1, .int .i64 p2] 69)) := Only.of_below hbk3 (Nat.le_refl _)
    have Hq := veil hq
    have Hbits := veil hbits
    have HM13 := veil hM13; have HM23 := veil hM23; have Hf3 := veil hf3; have Hr3 := veil hr3; have Hm3 := veil hm3; have HB3 := veil hB3; have Hon3 := veil hon3; have Hft := veil hft; have Hlen := veil hlen; have Hok2 := veil hok2; have Hok := veil hok; have Hpf := veil hpf
    clear hbk2 hbk3 hW hM1 hM2 hf0 hr0 hm0 hbits hlen hft hbk hgf hgt hwx hq hok hok2 hW3 hM13 hM23 hf3 hr3 hm3 hB3 hon3 hpf
    unfold tokV
    go_enter Try.func29, Try.ntmps29
    go_wp2_with (first
      | (at_lookup; refine wpList_lookF _ rfl (.tmp 15) (.tmp 17) rfl b2 n2 (symF rw_) s2 rfl hM2a t0 rfl Hwx.out (p1, p2) true (by rw [Hq.out]; rfl) (by rw [Hq.out]; rfl) ?_)
      | fail)
    refine HA.out.mono ?_
    rintro e w4 ⟨rfl, D4, P4, vd4, vp4, hW4, hb4, hon4, hsub4⟩
    have hz4 := hon4.size
    rw [hz3] at hz4 hsub4
    have hnw : ∀ q, q < g → ¬ wrF g vd vp q := fun q hq h => by have := (Hft.out q h).2; omega
    have hnw2 : ∀ q, W.heap.size ≤ q → ¬ wrF g vd vp q := fun q hq h => by have := (Hft.out q h).1; omega
    have hnm := Hnm.out
    have hT4 := hon4.blk HB3.out (hnw2 _ (Nat.le_refl _))
    have k1 := hT4.cell (i := 1) (v := .int .i64 t1) rfl
    have k2 := hT4.cell (i := 2) (v := .int .i64 t2) rfl
    have hl4 := congrArg List.length hb4
    rw [show (unpack D ++ fieldBits P ++ bitsN p1.toNat p2.toNat).length = (unpack D ++ fieldBits P).length + (bitsN p1.toNat p2.toNat).length from List.length_append, bitsN_length] at hl4
    have hp16 : p1.toNat ≤ 24 := by have := Hok.out.1; simp only at this; omega
    have hlen4 := Hlen.out
    have hD4 : D4.length ≤ 1000000 := by
      have h9 : (unpack D4 ++ fieldBits P4).length = 8 * D4.length + (fieldBits P4).length := by rw [List.length_append, unpack_length]
      omega
    have HA2 := veil (add_any B g D4 P4 vd4 vp4 t1 t2 w4 hW4 Hok2.out hD4)
    have Hnm4 : Hid (¬ wrF g vd4 vp4 m) := fun h => by
      rcases h with h | h | h
      · omega
      · have := (hW4.own.head.lt m h).1; omega
      · have := (hW4.own.tail.head.lt m h).1; omega
    have hnw4 : ∀ q, q < g → ¬ wrF g vd4 vp4 q := fun q hq h => by have := (hW4.foot h).2; omega
    have HM14 := veil (HM13.out.only hon4 (hnw _ hb1)); have HM24 := veil (HM23.out.only hon4 (hnw _ hb2)); have Hf4 := veil (hon4.blk Hf3.out (hnw _ hf)); have Hr4 := veil (hon4.blk Hr3.out (hnw _ hr)); have Hm4 := veil (hon4.blk Hm3.out hnm)
    have Hnw4 := veil hnw4; have Hon4 := veil hon4; have Hsub4 := veil hsub4; have Hb4 := veil hb4; have Hl4 := veil hl4
    have Hlen4 := veil hlen4
    clear HA hW4 hb4 hl4 hnw4 hon4 hsub4 hT4 hnm hlen4 hD4
    go_wp2_with fail
    refine HA2.out.mono ?_
    rintro e w5 ⟨rfl, D5, P5, vd5, vp5, hW5, hb5, hon5, hsub5⟩
    have hm5 := hon5.blk Hm4.out Hnm4.out
    have hiff : AllW fw rw_ (acc ++ [(false, t0, t1, t2)]) ↔ AllW fw rw_ acc := by
      rw [allW_snoc]
      have h3 : (symF rw_ t0).isSome = true := by rw [Hq.out]; rfl
      exact ⟨fun h => h.1, fun h => ⟨h, h3⟩⟩
    have hdec : (!decide (AllW fw rw_ (acc ++ [(false, t0, t1, t2)]))) = (!decide (AllW fw rw_ acc)) := by rw [decide_eq_decide.2 hiff]
    have hlen5 : (unpack D5 ++ fieldBits P5).length ≤ 40 * (acc ++ [(false, t0, t1, t2)]).length := by
      have h9 : (acc ++ [(false, t0, t1, t2)]).length = acc.length + 1 := by simp
      have h8 := congrArg List.length hb5
      rw [show (unpack D4 ++ fieldBits P4 ++ bitsN t1.toNat t2.toNat).length = (unpack D4 ++ fieldBits P4).length + (bitsN t1.toNat t2.toNat).length from List.length_append, bitsN_length] at h8
      have h7 : t1.toNat ≤ 12 := by have := (goodT_fit Hgt.out).1; simp only at this; omega
      have h6 := Hl4.out
      have h5 := Hlen4.out
      have h4 : p1.toNat ≤ 16 := sym_short Hpf.out Hq.out
      rw [h9]; omega
    have hbits5 : AllW fw rw_ (acc ++ [(false, t0, t1, t2)]) → unpack D5 ++ fieldBits P5 = segBits fw rw_ (acc ++ [(false, t0, t1, t2)]) := fun h => by
      have h2 := Hbits.out (hiff.1 h)
      rw [hb5, Hb4.out, h2, segBits_append, segBits_one]
      show _ = segBits fw rw_ acc ++ (symBits rw_ t0 ++ bitsN t1.toNat t2.toNat)
      unfold symBits
      rw [Hq.out, List.append_assoc]; rfl
    have hsub6 : ∀ q, (q = m ∨ wrF g vd5 vp5 q) → (q = m ∨ wrF g vd vp q) ∨ W.heap.size ≤ q := fun q hq => by
      rcases hq with h | h
      · exact .inl (.inl h)
      · rcases hsub5 q h with h | h
        · rcases Hsub4.out q h with h | h
          · exact .inl (.inr h)
          · right; omega
        · right; omega
    have hon6 : Only (fun q => q = m ∨ wrF g vd vp q) W w5 := ((((Hon3.out.mono (fun q h => h.elim) : Only (fun q => q = m ∨ wrF g vd vp q) W _)).trans Hon4.out (fun q h => .inl (.inr h)))).trans hon5 (fun q h => by
      rcases Hsub4.out q h with h | h
      · exact .inl (.inr h)
      · right; omega)
    have hres : Hid (∃ F', encI fw rw_ n1 s1 n2 s2 b1 b2 f r m g B w5 F' (acc ++ [(false, t0, t1, t2)]) ∧ Only (fun q => q = m ∨ wrF g vd vp q) W w5 ∧ ∀ q, F' q → (q = m ∨ wrF g vd vp q) ∨ W.heap.size ≤ q) :=
      ⟨fun q => q = m ∨ wrF g vd5 vp5 q, ⟨D5, P5, vd5, vp5, hW5, HM14.out.only hon5 (Hnw4.out _ hb1), HM24.out.only hon5 (Hnw4.out _ hb2), hon5.blk Hf4.out (Hnw4.out _ hf), hon5.blk Hr4.out (Hnw4.out _ hr), by rw [hdec]; exact hm5, hbits5, hlen5, rfl⟩, hon6, hsub6⟩
    clear hW5 hb5 hon5 hsub5 hm5 hiff hdec hlen5 hbits5 hsub6 hon6 k1 k2
    go_wp2_with fail
    go_end0
    exact ⟨rfl, hres.out⟩
end Go.Proofs.Ytbboakdfnjjddaa

/- Blocks out of bits, in numbers: what is read lies within its bounds; a reading under way. -/
namespace Go.Proofs.Ytbboakdfnjjddaa
set_option linter.unusedVariables false
set_option linter.unusedSimpArgs false
set_option maxRecDepth 100000

section
variable {σ : Type} {step : Bool → σ → Int ⊕ ((Int × Int × Int) × σ)}
theorem gR_in (hne : ∀ b s e, step b s = .inl e → e ≠ 0) : ∀ (k : Nat) (s : σ), (gR step k s).1 = 0 → (gR step k s).2.1.length = k ∧ (∀ z ∈ (gR step k s).2.1, -2047 ≤ z ∧ z ≤ 2047) ∧ ∃ s', (gR step k s).2.2.2 = some s' := by
  intro k
  induction k using Nat.strongRecOn with
  | _ k ih =>
    intro s h
    cases k with
    | zero => rw [gR]; exact ⟨rfl, by simp, s, rfl⟩
    | succ k =>
      rw [gR] at h ⊢
      cases hst : step false s with
      | inl e => rw [hst] at h; exact absurd h (hne _ _ _ hst)
      | inr q =>
        obtain ⟨t, s2⟩ := q
        rw [hst] at h
        simp only [] at h ⊢
        by_cases h1 : okT t = true
        · rw [if_pos h1] at h ⊢
          by_cases h2 : t.1 = 0
          · rw [if_pos h2]
            exact ⟨by simp, fun z hz => by rw [(List.mem_replicate.1 hz).2]; omega, s2, rfl⟩
          · rw [if_neg h2] at h ⊢
            by_cases h3 : k + 1 < farT t
            · rw [if_pos h3] at h; simp at h
            · rw [if_neg h3] at h ⊢
              have hp : 0 < farT t := by unfold farT; omega
              by_cases h4 : (gR step (k + 1 - farT t) s2).1 = 0
              · obtain ⟨g1, g2, s', g3⟩ := ih (k + 1 - farT t) (by omega) s2 h4
                rw [if_pos h4]
                refine ⟨by simp only [List.length_append, List.length_replicate, List.length_cons, g1]; omega, fun z hz => ?_, s', g3⟩
                rcases List.mem_append.1 hz with hz | hz
                · rw [(List.mem_replicate.1 hz).2]; omega
                · rcases List.mem_cons.1 hz with rfl | hz
                  · exact okQ_num (okT_okQ h1)
                  · exact g2 z hz
              · rw [if_neg h4] at h; exact absurd h h4
        · rw [if_neg h1] at h; simp at h
theorem gB_in (hne : ∀ b s e, step b s = .inl e → e ≠ 0) {before : Int} {s : σ} (h : (gB step before s).1 = 0) : (gB step before s).2.1.length = 64 ∧ (∀ z ∈ (gB step before s).2.1, -2047 ≤ z ∧ z ≤ 2047) ∧ (∃ s', (gB step before s).2.2.2 = some s') ∧ toksZ before (gB step before s).2.1 = (gB step before s).2.2.1 := by
  cases hst : step true s with
  | inl e => rw [gB_none hst] at h; exact absurd h (hne _ _ _ hst)
  | inr q =>
    obtain ⟨t, s2⟩ := q
    by_cases hf : firstT before t
    · rw [gB_go hst hf] at h ⊢
      by_cases h4 : (gR step 63 s2).1 = 0
      · obtain ⟨g1, g2, s', g3⟩ := gR_in hne 63 s2 h4
        unfold joinG at h ⊢
        rw [if_pos h4] at h ⊢
        unfold finG at h ⊢
        rw [if_pos rfl] at h ⊢
        by_cases h5 : toksZ before ([before + numT t] ++ (gR step 63 s2).2.1) = [t] ++ (gR step 63 s2).2.2.1
        · rw [if_pos h5]
          refine ⟨by simp [g1], fun z hz => ?_, ⟨s', g3⟩, h5⟩
          rcases List.mem_append.1 hz with hz | hz
          · rw [List.mem_singleton.1 hz]; exact hf.2.2
          · exact g2 z hz
        · rw [if_neg h5] at h; simp at h
      · unfold joinG at h
        rw [if_neg h4] at h
        unfold finG at h
        rw [if_neg h4] at h
        exact absurd h h4
    · rw [gB_bad hst hf] at h; simp at h
theorem head_in {zs : List Int} (h1 : zs.length = 64) (h2 : ∀ z ∈ zs, -2047 ≤ z ∧ z ≤ 2047) : -2047 ≤ (fromL zs).headD 0 ∧ (fromL zs).headD 0 ≤ 2047 := by
  have hl := fromL_length zs
  match hf : fromL zs, hl with
  | z :: l, _ => exact h2 z (fromL_mem h1 (by rw [hf]; exact List.mem_cons_self))
theorem inB_from {zs : List Int} (h1 : zs.length = 64) (h2 : ∀ z ∈ zs, -2047 ≤ z ∧ z ≤ 2047) : inB (-2047) 2047 (fromL zs) = true := inB_mem.2 fun z hz => h2 z (fromL_mem h1 hz)
end
/-- Blocks read so far, and what is still to read. -/
def joinS (acc : List (List Int)) (q : Int × List (List Int) × List Bool) : Int × List (List Int) × List Bool := if q.1 = 0 then (0, acc ++ q.2.1, q.2.2) else (q.1, [], [])
theorem joinS_nil_eq {fw rw_ : List (Int × Nat × Nat)} : ∀ (n : Nat) (before : Int) (b : List Bool), joinS [] (decS fw rw_ n before b) = decS fw rw_ n before b
  | 0, before, b => rfl
  | n + 1, before, b => by
    rw [decS]
    by_cases h : (gB (stepS fw rw_) before b).1 = 0
    · rw [if_pos h]
      simp only []
      by_cases h2 : (decS fw rw_ n ((fromL (gB (stepS fw rw_) before b).2.1).headD 0) ((gB (stepS fw rw_) before b).2.2.2.getD [])).1 = 0
      · rw [if_pos h2]; rfl
      · rw [if_neg h2]; unfold joinS; rw [if_neg h2]
    · rw [if_neg h]; unfold joinS; rw [if_neg h]
theorem joinS_joinS (a b : List (List Int)) (q : Int × List (List Int) × List Bool) : joinS a (joinS b q) = joinS (a ++ b) q := by
  unfold joinS
  by_cases h : q.1 = 0
  · simp [h]
  · simp [h]
theorem decS_err {fw rw_ : List (Int × Nat × Nat)} {before : Int} {b : List Bool} (h : (gB (stepS fw rw_) before b).1 ≠ 0) (n : Nat) : decS fw rw_ (n + 1) before b = ((gB (stepS fw rw_) before b).1, [], []) := by
  rw [decS, if_neg h]
theorem decS_ok {fw rw_ : List (Int × Nat × Nat)} {before : Int} {b s' : List Bool} (h : (gB (stepS fw rw_) before b).1 = 0) (hs : (gB (stepS fw rw_) before b).2.2.2 = some s') (n : Nat) : decS fw rw_ (n + 1) before b = joinS [outBk (gB (stepS fw rw_) before b)] (decS fw rw_ n ((outBk (gB (stepS fw rw_) before b)).headD 0) s') := by
  rw [decS, if_pos h, hs]
  unfold outBk joinS
  rw [if_pos h]
  rfl
/-- Where a reading of n blocks stands. -/
def DS (fw rw_ : List (Int × Nat × Nat)) (n : Nat) (s0 : List Bool) (k : Nat) (acc : List (List Int)) (before : Int) (s : List Bool) : Prop :=
  acc.length = k ∧ (-2047 ≤ before ∧ before ≤ 2047) ∧ (∀ r ∈ acc, r.length = 64) ∧ decS fw rw_ n 0 s0 = joinS acc (decS fw rw_ (n - k) before s)
theorem DS.start (fw rw_ : List (Int × Nat × Nat)) (n : Nat) (s0 : List Bool) : DS fw rw_ n s0 0 [] 0 s0 := ⟨rfl, by omega, by simp, by rw [joinS_nil_eq]; rfl⟩
section
variable {fw rw_ : List (Int × Nat × Nat)} {n k : Nat} {s0 s s' : List Bool} {acc : List (List Int)} {before : Int}
theorem DS.err (h : DS fw rw_ n s0 k acc before s) (hk : k < n) (he : (gB (stepS fw rw_) before s).1 ≠ 0) : decS fw rw_ n 0 s0 = ((gB (stepS fw rw_) before s).1, [], []) := by
  rw [h.2.2.2, show n - k = (n - (k + 1)) + 1 by omega, decS_err he]
  unfold joinS; rw [if_neg he]
theorem DS.next (h : DS fw rw_ n s0 k acc before s) (hk : k < n) (he : (gB (stepS fw rw_) before s).1 = 0) (hs : (gB (stepS fw rw_) before s).2.2.2 = some s') :
    DS fw rw_ n s0 (k + 1) (acc ++ [outBk (gB (stepS fw rw_) before s)]) ((outBk (gB (stepS fw rw_) before s)).headD 0) s' := by
  obtain ⟨g1, g2, _, _⟩ := gB_in (fun _ _ _ h => stepS_ne h) he
  have e : outBk (gB (stepS fw rw_) before s) = fromL (gB (stepS fw rw_) before s).2.1 := if_pos he
  refine ⟨by simp [h.1], by rw [e]; exact head_in g1 g2, fun r hr => ?_, ?_⟩
  · rcases List.mem_append.1 hr with hr | hr
    · exact h.2.2.1 r hr
    · rw [List.mem_singleton.1 hr, e]; exact fromL_length _
  · rw [h.2.2.2, show n - k = (n - (k + 1)) + 1 by omega, decS_ok he hs, joinS_joinS]
theorem DS.done (h : DS fw rw_ n s0 n acc before s) : decS fw rw_ n 0 s0 = (0, acc, s) := by
  rw [h.2.2.2, Nat.sub_self, decS]; unfold joinS; simp
end
theorem outBk_length {σ : Type} {step : Bool → σ → Int ⊕ ((Int × Int × Int) × σ)} (before : Int) (s : σ) : (outBk (gB step before s)).length = 64 := by
  unfold outBk; split
  · exact fromL_length _
  · exact zero64_length
/-- What Decode answers. -/
def segD (cs syms cs2 syms2 bs : List Int) (n : Nat) : Int × List (List Int) × List Bool := decS (outWords cs syms) (outWords cs2 syms2) n 0 (unpack (plainOut bs))
def eDec (cs syms cs2 syms2 bs : List Int) (n : Int) : Int :=
  if eTs cs syms cs2 syms2 ≠ 0 then eTs cs syms cs2 syms2 else if n < 0 ∨ 400 < n then 1 else if plainErr bs ≠ 0 then plainErr bs
  else if (segD cs syms cs2 syms2 bs n.toNat).1 ≠ 0 then (segD cs syms cs2 syms2 bs n.toNat).1 else if fillB (segD cs syms cs2 syms2 bs n.toNat).2.2 = true then 0 else 4
def oDec (cs syms cs2 syms2 bs : List Int) (n : Int) : List (List Int) := if eDec cs syms cs2 syms2 bs n = 0 then (segD cs syms cs2 syms2 bs n.toNat).2.1 else []
theorem oDec_err {cs syms cs2 syms2 bs : List Int} {n : Int} (h : eDec cs syms cs2 syms2 bs n ≠ 0) : oDec cs syms cs2 syms2 bs n = [] := if_neg h
end Go.Proofs.Ytbboakdfnjjddaa

/- seg.Encode: its contract. -/
namespace Go.Proofs.Ytbboakdfnjjddaa
open Go.RowKit
set_option linter.unusedVariables false
set_option linter.unusedSimpArgs false
set_option maxRecDepth 100000

theorem enc_taker (fw rw_ : List (Int × Nat × Nat)) (n1 s1 n2 s2 b1 b2 f r m g B G : Nat) (hp1 : PF fw) (hp2 : PF rw_) (hf : f < g) (hr : r < g) (hb1 : b1 < g) (hb2 : b2 < g) (hgm : g < m) (hmB : m < B) (hG : G ≤ g) :
    Taker 29 #[.pointer (some ⟨r, 0, none⟩), .pointer (some ⟨f, 0, none⟩), .pointer (some ⟨m, 0, none⟩), .pointer (some ⟨g, 0, none⟩)] G (encI fw rw_ n1 s1 n2 s2 b1 b2 f r m g B) where
  enters := Enters.of Try.func29 (by kernel_rfl) (by kernel_rfl)
  foot h q hq := by
    obtain ⟨D, P, vd, vp, hW, _, _, _, _, hm, _, _, rfl⟩ := h
    rcases hq with rfl | hq
    · exact ⟨hm.lt, by omega⟩
    · have := hW.foot hq; exact ⟨this.1, by omega⟩
  keep h hb := by
    obtain ⟨D, P, vd, vp, hW, hM1, hM2, hf0, hr0, hm, h1, h2, rfl⟩ := h
    exact ⟨D, P, vd, vp, hW.below hb, hM1.below hb hM1.lt, hM2.below hb hM2.lt, hf0.below hb hf0.lt, hr0.below hb hr0.lt, hm.below hb hm.lt, h1, h2, rfl⟩
  take first t h ha hg := by
    cases first with
    | true => exact enc_true fw rw_ n1 s1 n2 s2 b1 b2 f r m g B hp1 t _ _ _ h ha hg hf hr hb1 hb2 hgm hmB
    | false => exact enc_false fw rw_ n1 s1 n2 s2 b1 b2 f r m g B hp2 t _ _ _ h ha hg hf hr hb1 hb2 hgm hmB
theorem words_pf2 {cs syms : List Int} (hcs : cs.length = 16) (h : checkErr cs syms = 0) : PF (outWords cs syms) := by
  obtain ⟨l, hf, how, hll⟩ := fine_of h
  rw [how]
  exact hf.pf hcs
/-- What Encode makes. -/
def SegOut (cs syms cs2 syms2 : List Int) (L : List (List Int)) (out : List Int) : Prop :=
  (eEnc cs syms cs2 syms2 L ≠ 0 → out = []) ∧ (eEnc cs syms cs2 syms2 L = 0 → ∃ raw, out = stuffB raw ∧ Bytes raw ∧ ∃ p, p < 8 ∧ unpack raw = segBits (outWords cs syms) (outWords cs2 syms2) (toksB 0 L) ++ List.replicate p true)
section
variable {cs syms cs2 syms2 : List Int} {L : List (List Int)}
theorem eEnc_one (h : checkErr cs syms ≠ 0) : eEnc cs syms cs2 syms2 L = checkErr cs syms := if_pos h
theorem eEnc_two (h : checkErr cs syms = 0) (h2 : checkErr cs2 syms2 ≠ 0) : eEnc cs syms cs2 syms2 L = checkErr cs2 syms2 := by unfold eEnc; rw [if_neg (by rw [h]; decide), if_pos h2]
theorem eEnc_blk (h : checkErr cs syms = 0) (h2 : checkErr cs2 syms2 = 0) (h3 : eL L ≠ 0) : eEnc cs syms cs2 syms2 L = eL L := by unfold eEnc; rw [if_neg (by rw [h]; decide), if_neg (by rw [h2]; decide), if_pos h3]
theorem eEnc_end (h : checkErr cs syms = 0) (h2 : checkErr cs2 syms2 = 0) (h3 : eL L = 0) : eEnc cs syms cs2 syms2 L = if AllW (outWords cs syms) (outWords cs2 syms2) (toksB 0 L) then 0 else 5 := by unfold eEnc; rw [if_neg (by rw [h]; decide), if_neg (by rw [h2]; decide), if_neg (by rw [h3]; decide)]
end
set_option maxRecDepth 100000 in
set_option maxHeartbeats 8000000 in
theorem segEncode_any (cs syms : List Int) (A : Option Addr) (c : Nat) (cs2 syms2 : List Int) (A2 : Option Addr) (c2 G : Nat) (L : List (List Int)) (A3 : Option Addr) (c3 : Nat) (w : World)
    (hcs : cs.length = 16) (hn : syms.length ≤ maxLen) (hb : ∀ x ∈ cs, -9223372036854775808 ≤ x ∧ x ≤ 9223372036854775807) (hs : Seen w G A (ints .i64 syms))
    (hcs2 : cs2.length = 16) (hn2 : syms2.length ≤ maxLen) (hb2 : ∀ x ∈ cs2, -9223372036854775808 ≤ x ∧ x ≤ 9223372036854775807) (hs2 : Seen w G A2 (ints .i64 syms2))
    (hl : ∀ r ∈ L, r.length = 64) (hm : L.length ≤ maxLen) (hs3 : Seen w G A3 (rowsC L)) (hG : G ≤ w.heap.size) :
    Calls Try.prog 13 #[tabsV cs A syms.length c cs2 A2 syms2.length c2, .slice A3 L.length c3] w fun e w' => ∃ v out, e = .returned (.tuple #[v, .int .i64 (eEnc cs syms cs2 syms2 L)]) ∧ Owns w.heap.size [byteRow v out] w' ∧ SegOut cs syms cs2 syms2 L out ∧ Below w.heap.size w w' := by
  have h17 : (tabCells cs A syms.length c).length = 17 := tabCells_length hcs
  have h17b : (tabCells cs2 A2 syms2.length c2).length = 17 := tabCells_length hcs2
  have HC1 := veil (fun W h hG => codewords_any cs syms A c G W hcs hn hb h hG)
  have HC2 := veil (fun W h hG => codewords_any cs2 syms2 A2 c2 G W hcs2 hn2 hb2 h hG)
  have hb0 := below1 w (.cells (tabsCells cs A syms.length c cs2 A2 syms2.length c2).toArray 36)
  have hz0 : (w.alloc (.cells (tabsCells cs A syms.length c cs2 A2 syms2.length c2).toArray 36)).heap.size = w.heap.size + 1 := by simp
  have hr := range_new w (tabsCells cs A syms.length c cs2 A2 syms2.length c2) 36
  have hr1 := range_left hr
  have hr2 := range_right hr
  rw [h17] at hr2
  have Hcs := veil hcs
  have Hcs2 := veil hcs2
  obtain ⟨E, hE⟩ : ∃ E, E = eEnc cs syms cs2 syms2 L := ⟨_, rfl⟩
  rw [← hE]
  have HSo : Hid (E ≠ 0 → SegOut cs syms cs2 syms2 L []) := fun h => ⟨fun _ => rfl, fun h2 => absurd h2 (by rw [← hE]; exact h)⟩
  have HE := veil hE
  have H17 := veil h17
  have H17b := veil h17b
  clear hr h17 h17b hcs hcs2 hb hb2 hE
  unfold tabsV
  unfold tabV at HC1 HC2
  generalize tabsCells cs A syms.length c cs2 A2 syms2.length c2 = zs at *
  generalize tabCells cs A syms.length c = xs at *
  generalize tabCells cs2 A2 syms2.length c2 = ys at *
  go_enter Try.func13, Try.ntmps13
  go_wp2_with (first
    | (refine wpList_load_mid rfl 34 (.tmp 12) rfl w.heap.size 0 rfl xs _ hr1 Try.underlying34 rfl (by rw [H17.out]; exact info_tab) ?_)
    | fail)
  refine (HC1.out _ (hs.below hb0 hG) (by rw [hz0]; omega)).mono ?_
  rintro e w1 ⟨v1, rfl, hok1, hbad1, hb1⟩
  have hr2' := range_below hr2 hb1 (by rw [hz0]; omega)
  have hbw := hb0.trans (hb1.mono (by rw [hz0]; omega))
  have hz1 := hb1.size
  rw [hz0] at hz1
  clear hr1 hr2 hb0 HC1
  by_cases h0 : checkErr cs syms = 0
  · obtain ⟨b1, rfl, hb1l, HM1⟩ := hok1 h0
    rw [h0]
    rw [hz0] at hb1l
    have H0 := veil h0
    have HM1 := veil HM1
    have hb1z := HM1.out.lt
    clear hok1 hbad1 h0 hb1
    have hba := below1 w1 (.cells #[.map (some b1)] 62)
    have hfv : Blk (w1.alloc (.cells #[.map (some b1)] 62)) w1.heap.size [.map (some b1)] 62 := Blk.new w1 [.map (some b1)] 62
    have hza : (w1.alloc (.cells #[.map (some b1)] 62)).heap.size = w1.heap.size + 1 := by simp
    have hr3 := range_below hr2' hba (by omega)
    have hbwa := hbw.trans (hba.mono hbw.size)
    have HM1a := HM1.out.below hba hb1z
    go_wp2_with (first
      | (refine wpList_load_mid rfl 34 (.tmp 21) rfl w.heap.size 17 rfl ys _ (by simpa using hr3) Try.underlying34 rfl (by rw [H17b.out]; exact info_tab) ?_)
      | fail)
    refine (HC2.out _ (hs2.below hbwa hG) (by omega)).mono ?_
    rintro e w2 ⟨v2, rfl, hok2, hbad2, hb2⟩
    have hbw2 := hbwa.trans (hb2.mono hbwa.size)
    have hz2 := hb2.size
    rw [hza] at hz2
    have HM12 := HM1a.below hb2 (by omega)
    have hfv2 := hfv.below hb2 (by omega)
    clear hr2' hr3 HC2 HM1 hba hfv hbwa HM1a
    by_cases h0b : checkErr cs2 syms2 = 0
    · obtain ⟨b2, rfl, hb2l, HM2⟩ := hok2 h0b
      rw [h0b]
      rw [hza] at hb2l
      have hb2z := HM2.lt
      have H0b := veil h0b
      have HM1 := veil HM12
      have HM2 := veil HM2
      have hfv2 := veil hfv2
      clear hok2 hbad2 h0b HM12 hb2
      obtain ⟨fw, hfw⟩ : ∃ fw, fw = outWords cs syms := ⟨_, rfl⟩
      obtain ⟨rw_, hrw⟩ : ∃ rw_, rw_ = outWords cs2 syms2 := ⟨_, rfl⟩
      have hpf1 : PF fw := by rw [hfw]; exact words_pf2 Hcs.out H0.out
      have hpf2 : PF rw_ := by rw [hrw]; exact words_pf2 Hcs2.out H0b.out
      rw [← hfw] at HM1
      rw [← hrw] at HM2
      have hb3 := below1 w2 (.cells #[.map (some b2)] 62)
      have hb4 := below1 (w2.alloc (.cells #[.map (some b2)] 62)) (.cells #[.slice none 0 0, .slice none 0 0, .int .i64 0] 67)
      have hb5 := below1 ((w2.alloc (.cells #[.map (some b2)] 62)).alloc (.cells #[.slice none 0 0, .slice none 0 0, .int .i64 0] 67)) (.cells #[.bool false] 4)
      obtain ⟨w5, hw5⟩ : ∃ w5, w5 = ((w2.alloc (.cells #[.map (some b2)] 62)).alloc (.cells #[.slice none 0 0, .slice none 0 0, .int .i64 0] 67)).alloc (.cells #[.bool false] 4) := ⟨_, rfl⟩
      have hz3 : (w2.alloc (.cells #[.map (some b2)] 62)).heap.size = w2.heap.size + 1 := by simp
      have hz4 : ((w2.alloc (.cells #[.map (some b2)] 62)).alloc (.cells #[.slice none 0 0, .slice none 0 0, .int .i64 0] 67)).heap.size = w2.heap.size + 2 := by simp
      have hr5 : Blk w5 w2.heap.size [.map (some b2)] 62 := by rw [hw5]; exact ((Blk.new w2 [.map (some b2)] 62).below hb4 (by omega)).below hb5 (by omega)
      have hg5 : Blk w5 (w2.heap.size + 1) [.slice none 0 0, .slice none 0 0, .int .i64 0] 67 := by
        have h9 := Blk.new (w2.alloc (.cells #[.map (some b2)] 62)) [.slice none 0 0, .slice none 0 0, .int .i64 0] 67
        rw [hz3] at h9
        rw [hw5]; exact h9.below hb5 (by omega)
      have hm5 : Blk w5 (w2.heap.size + 2) [.bool false] 4 := by
        have h9 := Blk.new ((w2.alloc (.cells #[.map (some b2)] 62)).alloc (.cells #[.slice none 0 0, .slice none 0 0, .int .i64 0] 67)) [.bool false] 4
        rw [hz4] at h9
        rw [hw5]; exact h9
      have hz5 : w5.heap.size = w2.heap.size + 3 := by rw [hw5]; simp
      have hb25 : Below w2.heap.size w2 w5 := by rw [hw5]; exact (hb3.trans (hb4.mono (by omega))).trans (hb5.mono (by omega))
      have hbw5 := hbw2.trans (hb25.mono hbw2.size)
      have hI : encI fw rw_ syms.length (symS fw) syms2.length (symS rw_) b1 b2 w1.heap.size w2.heap.size (w2.heap.size + 2) (w2.heap.size + 1) (w2.heap.size + 3) w5 (fun q => q = w2.heap.size + 2 ∨ wrF (w2.heap.size + 1) (.slice none 0 0) (.slice none 0 0) q) [] :=
        ⟨[], [], .slice none 0 0, .slice none 0 0, ⟨hg5, ((Owns.nil (by omega)).fresh 69 2).fresh 5 1, by omega, by intro x hx; simp at hx, by simp, by simp⟩, HM1.out.below hb25 (by omega), HM2.out.below hb25 hb2z, hfv2.out.below hb25 (by omega), hr5, by
          rw [show (!decide (AllW fw rw_ [])) = false by rw [decide_eq_true (show AllW fw rw_ [] from fun x hx => by simp at hx)]; rfl]; exact hm5, fun _ => by simp [segBits, fieldBits, unpack], by simp [fieldBits, unpack], rfl⟩
      have hTk := enc_taker fw rw_ syms.length (symS fw) syms2.length (symS rw_) b1 b2 w1.heap.size w2.heap.size (w2.heap.size + 2) (w2.heap.size + 1) (w2.heap.size + 3) w.heap.size hpf1 hpf2 (by omega) (by omega) (by omega) (by omega) (by omega) (by omega) (by omega)
      have HEa := veil (eachToken_any _ _ w.heap.size _ hTk _ L A3 c3 w5 hl hm (fun _ => (hs3.below hbw5 hG).up hG) (by omega) hI)
      have hEe : Hid (eL L ≠ 0 → E = eL L) := fun h => HE.out.trans (eEnc_blk H0.out H0b.out h)
      have hEo : Hid (eL L = 0 → E = if AllW fw rw_ (toksB 0 L) then 0 else 5) := fun h => by have := HE.out.trans (eEnc_end H0.out H0b.out h); rw [hfw, hrw]; exact this
      have hSo : Hid (∀ raw, E = 0 → Bytes raw → (∃ p, p < 8 ∧ unpack raw = segBits fw rw_ (toksB 0 L) ++ List.replicate p true) → SegOut cs syms cs2 syms2 L (stuffB raw)) := fun raw h0 h1 h2 => ⟨fun h => absurd (HE.out.symm.trans h0) h, fun _ => ⟨raw, rfl, h1, by rw [← hfw, ← hrw]; exact h2⟩⟩
      have Hhw : Hid (w.heap.size ≤ w2.heap.size) := hbw2.size
      have Hw5 := veil hw5
      have Hbw5 := veil hbw5
      have Hz5 := veil hz5
      clear hb3 hb4 hb5 hz3 hz4 hr5 hg5 hm5 hz5 hb25 hbw5 hI hTk hfw hrw hpf1 hpf2 HM1 HM2 hfv2 hs hs2 hs3 hw5
      go_upto_region 9 with fail
      rw [← Hw5.out]
      go_wp2_with fail
      refine HEa.out.mono ?_
      rintro e w6 ⟨rfl, F, acc, ⟨D, P, vd, vp, hW, _, _, _, _, hm6, hbits, hlen, rfl⟩, hOn, _, hacc⟩
      have hz6 := hOn.size
      have hbw6 : Below w.heap.size w w6 := Hbw5.out.trans (hOn.below (by have := Hz5.out; have := Hhw.out; omega) (fun q hq => by
        have := Hhw.out
        rcases hq with rfl | rfl | h | h
        · omega
        · omega
        · cases h
        · cases h))
      by_cases hE0 : eL L = 0
      · rw [hE0]
        have hac := hacc hE0
        subst hac
        have hE5 := hEo.out hE0
        have hlL : L.length ≤ 400 := (eL_zero hE0).1
        have htl0 := toksB_len L 0
        have htl : (toksB 0 L).length ≤ 25600 := by omega
        clear htl0
        have hDl : D.length ≤ 1000000 := by rw [List.length_append, unpack_length] at hlen; omega
        have cm := hm6.cell (i := 0) (v := .bool (!decide (AllW fw rw_ (toksB 0 L)))) rfl
        by_cases hAW : AllW fw rw_ (toksB 0 L)
        · rw [if_pos hAW] at hE5
          rw [decide_eq_true hAW] at cm
          have HBy := veil (bytes_any (w2.heap.size + 3) (w2.heap.size + 1) D P vd vp w6 hW hDl)
          have hb6 := hbits hAW
          have Hb6 := veil hb6
          have Hbw6 := veil hbw6
          have HE5 := veil hE5
          have hlen6 := hlen
          rw [hb6] at hlen6
          have Hlen6 := veil hlen6
          clear hOn hW hm6 hbits hlen hacc hE0 hAW hb6 hbw6 hE5 hlen6 hlL hDl
          go_wp2_with fail
          refine HBy.out.mono ?_
          rintro e w7 ⟨v7, raw, rfl, hO7, ⟨hby7, p, hp, hun⟩, hb7⟩
          have hz7 := hb7.size
          have hrl := congrArg List.length hun
          rw [Hb6.out, unpack_length, List.length_append, List.length_replicate] at hrl
          obtain ⟨A7, c7, hv7, hs7, _, _⟩ := hO7.seen (List.mem_cons_self ..)
          simp only [byteRow, intRow] at hv7 hs7
          subst hv7
          have hsl := stuffB_length_le raw
          have HSt := veil (stuff_any A7 c7 w7.heap.size raw w7 hs7 (Nat.le_refl _) (by have := Hlen6.out; omega))
          have hSO := hSo.out raw HE5.out hby7 ⟨p, hp, by rw [hun, Hb6.out]⟩
          have HSO := veil hSO
          have hbw7 := Hbw6.out.trans (hb7.mono (by have := Hhw.out; omega))
          have Hbw7 := veil hbw7
          clear hO7 hby7 hun hb7 hrl hs7 hsl hSO hbw7 HBy
          go_wp2_with fail
          refine HSt.out.mono ?_
          rintro e w8 ⟨v8, rfl, hO8, hb8⟩
          have hf8 := Hbw7.out.trans (hb8.mono Hbw7.out.size)
          have hO9 := hO8.down Hbw7.out.size
          clear hO8 hb8 HSt
          go_wp2_with fail
          go_ret2
          exact ⟨v8, stuffB raw, ret_two rfl (by rw [HE5.out]; rfl), hO9, HSO.out, hf8⟩
        · rw [if_neg hAW] at hE5
          rw [decide_eq_false hAW] at cm
          have hS := HSo.out (by rw [hE5]; decide)
          have HS := veil hS
          have HE5 := veil hE5
          clear hOn hW hm6 hbits hlen hacc hE0 hAW hE5 hS hlL hDl
          go_wp2_with fail
          go_ret2
          exact ⟨_, [], ret_two rfl (by rw [HE5.out]; rfl), (Owns.nil hbw6.size).fresh _ _, HS.out, hbw6⟩
      · have hE5 := hEe.out hE0
        have hS := HSo.out (by rw [hE5]; exact hE0)
        have hne : (eL L != 0) = true := by simpa using hE0
        have HS := veil hS
        have HE5 := veil hE5
        obtain ⟨er, her⟩ : ∃ er, er = eL L := ⟨_, rfl⟩
        rw [← her] at hne HE5 ⊢
        clear hOn hW hm6 hbits hlen hacc hE0 hE5 hS her
        go_wp2_with fail
        go_ret2
        exact ⟨_, [], ret_two rfl (by rw [HE5.out]; rfl), (Owns.nil hbw6.size).fresh _ _, HS.out, hbw6⟩
    · have hE1 := HE.out.trans (eEnc_two (L := L) H0.out h0b)
      have hS := HSo.out (by rw [hE1]; exact h0b)
      have HS := veil hS
      have HE1 := veil hE1
      have hne : (checkErr cs2 syms2 != 0) = true := by simpa using h0b
      obtain ⟨er, her⟩ : ∃ er, er = checkErr cs2 syms2 := ⟨_, rfl⟩
      have hbx := hbw2.trans ((below1 w2 (.cells #[.map none] 62)).mono hbw2.size)
      obtain rfl := hbad2 h0b
      rw [← her] at hne HE1 ⊢
      clear hE1 hS h0b her hok2
      go_wp2
      go_ret2
      exact ⟨_, [], ret_two rfl (by rw [HE1.out]; rfl), (Owns.nil hbx.size).fresh _ _, HS.out, hbx⟩
  · have hE1 := HE.out.trans (eEnc_one (cs2 := cs2) (syms2 := syms2) (L := L) h0)
    have hS := HSo.out (by rw [hE1]; exact h0)
    have HS := veil hS
    have HE1 := veil hE1
    have hne : (checkErr cs syms != 0) = true := by simpa using h0
    obtain ⟨er, her⟩ : ∃ er, er = checkErr cs syms := ⟨_, rfl⟩
    have hbx := hbw.trans ((below1 w1 (.cells #[.map none] 62)).mono hbw.size)
    obtain rfl := hbad1 h0
    rw [← her] at hne HE1 ⊢
    clear hE1 hS h0 her hok1
    go_wp2
    go_ret2
    exact ⟨_, [], ret_two rfl (by rw [HE1.out]; rfl), (Owns.nil hbx.size).fresh _ _, HS.out, hbx⟩
end Go.Proofs.Ytbboakdfnjjddaa

/- The closed fact of the keeps: keep.blocked is true. -/
namespace Go.Proofs.Ytbboakdfnjjddaa
open Go.RowKit
set_option linter.unusedVariables false
set_option linter.unusedSimpArgs false
set_option maxRecDepth 100000

theorem three_in : three.length = 64 ∧ inB (-2047) 2047 three = true ∧ eL [three] = 0 := by decide +kernel
theorem three_all : AllW [(2, 1, 0)] [(0, 1, 0)] (toksB 0 [three]) := by
  have h : toksB 0 [three] = [(true, 2, 2, 3), (false, 0, 0, 0)] := by decide +kernel
  rw [h]
  intro x hx
  simp only [List.mem_cons, List.not_mem_nil, or_false] at hx
  rcases hx with rfl | rfl <;> rfl
theorem three_out {cs syms cs2 syms2 out : List Int} (h1 : outWords cs syms = [(2, 1, 0)]) (h2 : outWords cs2 syms2 = [(0, 1, 0)]) (c1 : checkErr cs syms = 0) (c2 : checkErr cs2 syms2 = 0) (h : SegOut cs syms cs2 syms2 [three] out) : eEnc cs syms cs2 syms2 [three] = 0 ∧ out.length = 1 := by
  have he : eEnc cs syms cs2 syms2 [three] = 0 := by rw [eEnc_end c1 c2 three_in.2.2, h1, h2, if_pos three_all]
  refine ⟨he, ?_⟩
  obtain ⟨raw, rfl, hby, p, hp, hu⟩ := h.2 he
  rw [h1, h2, three_bits] at hu
  have hl := congrArg List.length hu
  rw [unpack_length] at hl
  simp at hl
  obtain ⟨rfl⟩ : p = 4 := by omega
  have hr : raw = [111] := unpack_inj hby (by intro x hx; simp at hx; omega) (hu.trans (by decide +kernel))
  rw [hr]; decide +kernel
set_option maxRecDepth 100000 in
set_option maxHeartbeats 4000000 in
theorem blocked_any (w : World) : Calls Try.prog 20 #[] w fun e w' => e = .returned (.bool true) ∧ Below w.heap.size w w' := by
  have hb0 := below1 w (.cells (rowsC [three]).toArray 47)
  have hz0 : (w.alloc (.cells (rowsC [three]).toArray 47)).heap.size = w.heap.size + 1 := by simp
  have hs0 : Seen (w.alloc (.cells (rowsC [three]).toArray 47)) (w.heap.size + 1) (some ⟨w.heap.size, 0, none⟩) (rowsC [three]) := Seen.new w (rowsC [three]) _ _ (Nat.lt_succ_self _)
  have hl : ∀ r ∈ [three], r.length = 64 := fun r hr => by rw [List.mem_singleton.1 hr]; exact three_in.1
  have HF := veil (fitting0_any [three] (some ⟨w.heap.size, 0, none⟩) 1 (w.heap.size + 1) _ hl (Nat.le_refl _) (by decide) (fun r hr => by rw [List.mem_singleton.1 hr]; exact three_in.2.1) hs0 (by rw [hz0]; omega))
  have Hs0 := veil hs0; have Hb0 := veil hb0; have Hl := veil hl
  rw [show [three].length = 1 from rfl, three_fc.1, three_fc.2, decide_eq_true (show errB one2 = 0 ∧ errB one0' = 0 from ⟨three_used.2.2.2.2.1, three_used.2.2.2.2.2⟩)] at HF
  have hlit : (rowsC [three]).toArray = #[.int .i64 3, .int .i64 0, .int .i64 0, .int .i64 0, .int .i64 0, .int .i64 0, .int .i64 0, .int .i64 0, .int .i64 0, .int .i64 0, .int .i64 0, .int .i64 0, .int .i64 0, .int .i64 0, .int .i64 0, .int .i64 0, .int .i64 0, .int .i64 0, .int .i64 0, .int .i64 0, .int .i64 0, .int .i64 0, .int .i64 0, .int .i64 0, .int .i64 0, .int .i64 0, .int .i64 0, .int .i64 0, .int .i64 0, .int .i64 0, .int .i64 0, .int .i64 0, .int .i64 0, .int .i64 0, .int .i64 0, .int .i64 0, .int .i64 0, .int .i64 0, .int .i64 0, .int .i64 0, .int .i64 0, .int .i64 0, .int .i64 0, .int .i64 0, .int .i64 0, .int .i64 0, .int .i64 0, .int .i64 0, .int .i64 0, .int .i64 0, .int .i64 0, .int .i64 0, .int .i64 0, .int .i64 0, .int .i64 0, .int .i64 0, .int .i64 0, .int .i64 0, .int .i64 0, .int .i64 0, .int .i64 0, .int .i64 0, .int .i64 0, .int .i64 0] := rfl
  rw [hlit] at HF Hs0 Hb0 hz0
  clear hs0 hb0 hl hlit
  go_enter Try.func20, Try.ntmps20
  go_wp2_with fail
  refine HF.out.mono ?_
  rintro e w1 ⟨cs, syms, A1, c1, cs2, syms2, A2, c2, rfl, hM1, hM2, hs1, hs2, hb1⟩
  obtain ⟨rfl, k1, o1⟩ := one_words hM1 three_used.2.2.2.2.1 three_used.1 three_used.2.2.1
  obtain ⟨rfl, k2, o2⟩ := one_words hM2 three_used.2.2.2.2.2 three_used.2.1 three_used.2.2.2.1
  have hOut := fun out => three_out (cs := cs) (syms := [2]) (cs2 := cs2) (syms2 := [0]) (out := out) o1 o2 k1 k2
  have h34 : (tabsCells cs A1 1 c1 cs2 A2 1 c2).length = 34 := by unfold tabsCells; rw [List.length_append, tabCells_length hM1.len, tabCells_length hM2.len]
  have hone : ∀ u ∈ tabsCells cs A1 1 c1 cs2 A2 1 c2, u.oneCell' = true := fun u hu => by
    rcases List.mem_append.1 hu with h | h
    · exact tabCells_one u h
    · exact tabCells_one u h
  have hb2 := below1 w1 (.cells (tabsCells cs A1 1 c1 cs2 A2 1 c2).toArray 36)
  have hr2 := range_new w1 (tabsCells cs A1 1 c1 cs2 A2 1 c2) 36
  have hz1 := hb1.size
  rw [hz0] at hz1
  have hs0b := (Hs0.out.below hb1 (by rw [hz0]; omega)).below hb2 hz1
  have hbw := (Hb0.out.trans (hb1.mono (by rw [hz0]; omega))).trans (hb2.mono (by omega))
  have HE := veil (segEncode_any cs [2] A1 c1 cs2 [0] A2 c2 w1.heap.size [three] (some ⟨w.heap.size, 0, none⟩) 1 _ hM1.len (by unfold maxLen; decide) hM1.bnd (hs1.below hb2 (Nat.le_refl _)) hM2.len (by unfold maxLen; decide) hM2.bnd (hs2.below hb2 (Nat.le_refl _)) Hl.out (by unfold maxLen; decide) (hs0b.up hz1) (by simp))
  rw [show [three].length = 1 from rfl, show ([2] : List Int).length = 1 from rfl, show ([0] : List Int).length = 1 from rfl] at HE
  have HOut := veil hOut
  have H34 := veil h34
  have Hbw := veil hbw
  unfold tabsV at HE ⊢
  rw [show ([2] : List Int).length = 1 from rfl, show ([0] : List Int).length = 1 from rfl]
  obtain ⟨E, hE⟩ : ∃ E, E = eEnc cs [2] cs2 [0] [three] := ⟨_, rfl⟩
  rw [← hE] at HE
  have HE0 : Hid (∀ out, SegOut cs [2] cs2 [0] [three] out → E = 0 ∧ out.length = 1) := fun out h => by rw [hE]; exact hOut out h
  clear hE hOut hM1 hM2 hs1 hs2 hb1 hb2 hs0b hbw h34 HF Hs0 Hb0 o1 o2 k1 k2 HOut
  generalize tabsCells cs A1 1 c1 cs2 A2 1 c2 = zs at *
  go_wp2_with (first
    | (refine wpList_store_new w1 rfl 36 (.tmp 2) (.tmp 11) rfl _ zs rfl rfl (by rw [H34.out]; kernel_rfl) (by rw [H34.out]; rfl) hone ?_)
    | (refine wpList_load_mid rfl 36 (.tmp 2) rfl w1.heap.size 0 rfl zs _ hr2 Try.underlying36 rfl (by rw [H34.out]; kernel_rfl) ?_)
    | fail)
  refine HE.out.mono ?_
  rintro e w3 ⟨v, out, rfl, HO, hS, hb3⟩
  obtain ⟨hE0, ho⟩ := HE0.out out hS
  obtain ⟨A4, c4, hv4, _, _, _⟩ := HO.seen (List.mem_cons_self ..)
  obtain rfl : v = .slice A4 1 c4 := by rw [← ho]; exact hv4
  subst hE0
  have hfin := Hbw.out.trans (hb3.mono (by have := Hbw.out.size; simp at this ⊢; omega))
  clear HO hS hb3 ho
  go_wp2
  go_ret
  exact ⟨rfl, hfin⟩
end Go.Proofs.Ytbboakdfnjjddaa

/- The reference's BlocksCheck: its contract. -/
namespace Go.Proofs.Ytbboakdfnjjddaa
open Go.RowKit
set_option linter.unusedVariables false
set_option linter.unusedSimpArgs false
set_option maxRecDepth 100000

set_option maxHeartbeats 2000000 in
set_option maxRecDepth 100000 in
theorem blocksCheck_any (L : List (List Int)) (A : Option Addr) (c G : Nat) (w : World) (hl : ∀ r ∈ L, r.length = 64) (hm : L.length ≤ maxLen) (hs : Seen w G A (rowsC L)) (hG : G ≤ w.heap.size) :
    Calls Try.prog 10 #[.slice A L.length c] w fun e w' => e = .returned (.int .i64 (eL L)) ∧ Below w.heap.size w w' := by
  unfold maxLen at hm
  obtain ⟨E, hE⟩ : ∃ E, E = eL L := ⟨_, rfl⟩
  rw [← hE]
  by_cases hbig : 400 < L.length
  · have hbz : (400 : Int) < (L.length : Int) := by omega
    rw [eL_large hbig] at hE
    subst hE
    go_enter Try.func10, Try.ntmps10
    go_wp2
    go_ret
    exact ⟨rfl, Below.refl _ _⟩
  · have hbz : ¬ (400 : Int) < (L.length : Int) := by omega
    have HE := veil hE
    have Hbig := veil hbig
    have HW : Hid (∀ r ∈ L, ∀ W, Calls Try.prog 26 #[blkV r, .int .i64 (-2047), .int .i64 2047] W fun e w' => e = .returned (.bool (inB (-2047) 2047 r)) ∧ Below W.heap.size W w') := fun r hr W => bwithin_any r (-2047) 2047 W (hl r hr)
    clear hE hbig
    unfold blkV at HW
    go_enter Try.func10, Try.ntmps10
    go_wp2_with fail
    go_loopg [10] L.length (fun gk iv wr => ∃ k : Nat, gk = L.length - k ∧ k ≤ L.length ∧ iv = .int .i64 (k : Int) ∧ Hid (∀ r ∈ L.take k, inB (-2047) 2047 r = true) ∧ Below w.heap.size w wr)
    case atStart => exact ⟨0, rfl, Nat.zero_le _, rfl, veil (by simp), Below.refl _ _⟩
    case round =>
      obtain ⟨k, rfl, hk, rfl, HI, hb⟩ := hrel
      by_cases hlt : k < L.length
      · have hltz : (k : Int) < (L.length : Int) := by omega
        obtain ⟨g, o, r, rfl, hg, hr, hrl, hrange⟩ := hs.row hl (by omega) hlt
        have hrg := range_below hrange hb (by omega)
        have hmem := List.mem_of_getElem? hr
        have HC := veil (HW.out r hmem)
        have Hl : Hid ((ints .i64 r).length = 64) := by show _ = _; rw [ints_length, hrl]
        have hone := ints_one (k := .i64) (l := r)
        have hr2 := range_new wr (ints .i64 r) 47
        have hb2 := hb.alloc hb.size (.cells (ints .i64 r).toArray 47)
        have HIn : Hid (inB (-2047) 2047 r = true → ∀ x ∈ L.take (k + 1), inB (-2047) 2047 x = true) := fun h x hx => by
          rw [take_snoc hr] at hx
          rcases List.mem_append.1 hx with hx | hx
          · exact HI.out x hx
          · rw [List.mem_singleton.1 hx]; exact h
        have Hr := veil hr
        clear hrange hr hmem
        generalize hys : ints .i64 r = ys at *
        clear hys
        go_wp2_with (first
          | (refine wpList_load_mid rfl 47 (.tmp 12) rfl g (o + k * 64) rfl ys _ hrg Try.underlying47 rfl (info_blkn Hl.out) ?_)
          | (refine wpList_store_new wr rfl 47 (.tmp 4) (.tmp 13) rfl zeroB.toArray ys rfl rfl (info_blkn Hl.out) (by rw [Hl.out]; rfl) hone ?_)
          | (refine wpList_load_mid rfl 47 (.tmp 4) rfl wr.heap.size 0 rfl ys _ hr2 Try.underlying47 rfl (info_blkn Hl.out) ?_)
          | fail)
        refine (HC.out _).mono ?_
        rintro e w2 ⟨rfl, hb3⟩
        have hb4 := hb2.trans (hb3.mono hb2.size)
        clear hrg hr2 hb2 hb3 HC
        cases hin : inB (-2047) 2047 r with
        | true =>
          have HI2 := veil (HIn.out hin)
          clear hin HIn HI
          go_wp2_with fail
          go_roundg (L.length - (k + 1))
          case rel => exact ⟨k + 1, rfl, by omega, by go_num, HI2, hb4⟩
          case measure => omega
        | false =>
          have h5 := eL_bad Hbig.out Hr.out hin
          rw [← HE.out] at h5
          subst h5
          clear hin HIn HI
          go_wp2
          go_ret
          exact ⟨rfl, hb4⟩
      · obtain rfl : k = L.length := by omega
        have h5 := eL_ok Hbig.out (fun r hr => HI.out r (by rw [List.take_of_length_le (Nat.le_refl _)]; exact hr))
        rw [← HE.out] at h5
        subst h5
        go_wp2
        go_ret
        exact ⟨rfl, hb⟩
end Go.Proofs.Ytbboakdfnjjddaa
