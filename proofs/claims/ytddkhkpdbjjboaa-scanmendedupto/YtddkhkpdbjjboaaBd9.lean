/- Texts shared by the claims of this seat, in one. -/
import Derived.Test.YtddkhkpdbjjboaaBd5
import Derived.Test.YtddkhkpdbjjboaaBd8
import Derived.Test.YtddkhkpdbjjboaaBd3
import Derived.Test.YtddkhkpdbjjboaaBd4
import Derived.Laws.MakeOwn
/- seg.Encode's function that takes tokens: its contract. -/
namespace Go.Proofs.Ytddkhkpdbjjboaa
open Go.RowKit
set_option linter.unusedVariables false
set_option linter.unusedSimpArgs false
set_option maxRecDepth 100000

theorem allW_snoc {fw rw_ : List (Int × Nat × Nat)} {acc : List (Bool × Int × Int × Int)} {x : Bool × Int × Int × Int} : AllW fw rw_ (acc ++ [x]) ↔ AllW fw rw_ acc ∧ (symF (wsOf fw rw_ x.1) x.2.1).isSome = true := by
  unfold AllW
  constructor
  · intro h; exact ⟨fun y hy => h y (by simp [hy]), h x (by simp)⟩
  · rintro ⟨h1, h2⟩ y hy
    rcases List.mem_append.1 hy with hy | hy
    · exact h1 y hy
    · rw [List.mem_singleton.1 hy]; exact h2
theorem sym_ok {ws : List (Int × Nat × Nat)} (hpf : PF ws) {x p1 p2 : Int} (h : symF ws x = some (p1, p2)) : okF (p1, p2) := by
  obtain ⟨t, ht, _, e⟩ := symF_mem h
  have := hpf.small t ht
  simp only [fi, Prod.mk.injEq] at e
  rw [← e.1, ← e.2]
  exact (okF_nat _ _).2 ⟨by omega, this.2⟩
theorem sym_short {ws : List (Int × Nat × Nat)} (hpf : PF ws) {x p1 p2 : Int} (h : symF ws x = some (p1, p2)) : p1.toNat ≤ 16 := by
  obtain ⟨t, ht, _, e⟩ := symF_mem h
  have := hpf.small t ht
  simp only [fi, Prod.mk.injEq] at e
  omega
theorem good_ok {t0 t1 t2 : Int} (h : goodT (t0, t1, t2)) : okF (t1, t2) := by
  obtain ⟨h1, h2, h3⟩ := goodT_fit h
  simp only at h1 h2 h3
  obtain ⟨a, rfl⟩ := Int.eq_ofNat_of_zero_le h1.1
  obtain ⟨b, rfl⟩ := Int.eq_ofNat_of_zero_le h2
  unfold pw at h3
  rw [Int.toNat_natCast] at h3
  exact (okF_nat a b).2 ⟨by omega, by omega⟩
theorem MapF.kept {w w' : World} {b n g : Nat} {f : Int → Option (Int × Int)} {s : Nat} (h : MapF w b n f s) (hg : w.grownBy w' (some g)) (hn : b ≠ g) : MapF w' b n f s := by
  have hlt := h.lt
  obtain ⟨D, ⟨es, clock, h1, h2⟩, h3⟩ := h
  exact ⟨D, ⟨es, clock, by rw [hg.block b hlt (by simpa using hn)]; exact h1, h2⟩, h3⟩
theorem MapF.only {w w' : World} {b n : Nat} {F : Nat → Prop} {f : Int → Option (Int × Int)} {s : Nat} (h : MapF w b n f s) (hg : Only F w w') (hn : ¬ F b) : MapF w' b n f s := by
  have hlt := h.lt
  obtain ⟨D, ⟨es, clock, h1, h2⟩, h3⟩ := h
  exact ⟨D, ⟨es, clock, by rw [hg.block b hlt hn]; exact h1, h2⟩, h3⟩
/-- What the encoding keeps. -/
def encI (fw rw_ : List (Int × Nat × Nat)) (n1 s1 n2 s2 b1 b2 f r m g B : Nat) (W : World) (F : Nat → Prop) (acc : List (Bool × Int × Int × Int)) : Prop :=
  ∃ D P vd vp, Wr B g D P vd vp W ∧ MapF W b1 n1 (symF fw) s1 ∧ MapF W b2 n2 (symF rw_) s2 ∧ Blk W f [.map (some b1)] 68 ∧ Blk W r [.map (some b2)] 68 ∧ Blk W m [.bool (!decide (AllW fw rw_ acc))] 4 ∧
    (AllW fw rw_ acc → unpack D ++ fieldBits P = segBits fw rw_ acc) ∧ (unpack D ++ fieldBits P).length ≤ 40 * acc.length ∧ F = fun q => q = m ∨ wrF g vd vp q

set_option maxRecDepth 100000 in
set_option maxHeartbeats 4000000 in
theorem enc_true (fw rw_ : List (Int × Nat × Nat)) (n1 s1 n2 s2 b1 b2 f r m g B : Nat) (hpf : PF fw) (t : Int × Int × Int) (W : World) (F : Nat → Prop) (acc : List (Bool × Int × Int × Int)) (h : encI fw rw_ n1 s1 n2 s2 b1 b2 f r m g B W F acc) (hacc : acc.length < 25600) (hgt : goodT t) (hf : f < g) (hr : r < g) (hb1 : b1 < g) (hb2 : b2 < g) (hgm : g < m) (hmB : m < B) :
    Calls Try.prog 34 #[tokV t, .bool true, .pointer (some ⟨r, 0, none⟩), .pointer (some ⟨f, 0, none⟩), .pointer (some ⟨m, 0, none⟩), .pointer (some ⟨g, 0, none⟩)] W fun e W' => e = .returned (.tuple #[]) ∧ ∃ F', encI fw rw_ n1 s1 n2 s2 b1 b2 f r m g B W' F' (acc ++ [(true, t)]) ∧ Only F W W' ∧ ∀ q, F' q → F q ∨ W.heap.size ≤ q := by
  obtain ⟨D, P, vd, vp, hW, hM1, hM2, hf0, hr0, hm0, hbits, hlen, rfl⟩ := h
  obtain ⟨t0, t1, t2⟩ := t
  have hgl := hW.blk.lt
  have hml := hm0.lt
  have hft := fun (q : Nat) (hq : wrF g vd vp q) => hW.foot hq
  have hbk := below1 W (.cells #[.int .i64 t0, .int .i64 t1, .int .i64 t2] 76)
  have hz1 : (W.alloc (.cells #[.int .i64 t0, .int .i64 t1, .int .i64 t2] 76)).heap.size = W.heap.size + 1 := by simp
  have hM1a := hM1.below hbk (by omega)
  have hM2a := hM2.below hbk (by omega)
  have cf := (hf0.below hbk (by omega)).cell (i := 0) (v := .map (some b1)) rfl
  have cr := (hr0.below hbk (by omega)).cell (i := 0) (v := .map (some b2)) rfl
  have hB1 : Blk (W.alloc (.cells #[.int .i64 t0, .int .i64 t1, .int .i64 t2] 76)) W.heap.size [.int .i64 t0, .int .i64 t1, .int .i64 t2] 76 := Blk.new W [.int .i64 t0, .int .i64 t1, .int .i64 t2] 76
  have hgf := goodT_fit hgt
  have hwx : WF t0 := wf_of (by have := hgt.2; simp only at this; omega)
  have Hwx := veil hwx
  have Hgt := veil hgt
  have Hnm : Hid (¬ wrF g vd vp m) := fun h => by
    rcases h with h | h | h
    · omega
    · have := (hW.own.head.lt m h).1; omega
    · have := (hW.own.tail.head.lt m h).1; omega
  cases hq : symF fw t0 with
  | none =>
    have hno : ¬ AllW fw rw_ (acc ++ [(true, t0, t1, t2)]) := fun h => by
      have h2 := (allW_snoc.1 h).2
      have h3 : (symF fw t0).isSome = true := h2
      rw [hq] at h3; cases h3
    have hbk2 := below1 (W.alloc (.cells #[.int .i64 t0, .int .i64 t1, .int .i64 t2] 76)) (.cells #[.int .i64 0, .int .i64 0] 78)
    have hbk3 := hbk.trans (hbk2.mono (by omega))
    have hm3 := hm0.below hbk3 hml
    have cm := hm3.cell (i := 0) (v := .bool (!decide (AllW fw rw_ acc))) rfl
    have zm := hm3.frozen 0
    have hg3 := grown_setCell W m 0 (.bool true)
    have hzs : (W.setCell ⟨m, 0, none⟩ (.bool true)).heap.size = W.heap.size := by simp [World.setCell]
    have hbn := below2 (W.setCell ⟨m, 0, none⟩ (.bool true)) (.cells #[.int .i64 t0, .int .i64 t1, .int .i64 t2] 76) (.cells #[.int .i64 0, .int .i64 0] 78)
    have hres : Hid (∃ F', encI fw rw_ n1 s1 n2 s2 b1 b2 f r m g B (((W.setCell ⟨m, 0, none⟩ (.bool true)).alloc (.cells #[.int .i64 t0, .int .i64 t1, .int .i64 t2] 76)).alloc (.cells #[.int .i64 0, .int .i64 0] 78)) F' (acc ++ [(true, t0, t1, t2)]) ∧ Only (fun q => q = m ∨ wrF g vd vp q) W (((W.setCell ⟨m, 0, none⟩ (.bool true)).alloc (.cells #[.int .i64 t0, .int .i64 t1, .int .i64 t2] 76)).alloc (.cells #[.int .i64 0, .int .i64 0] 78)) ∧ ∀ q, F' q → (q = m ∨ wrF g vd vp q) ∨ W.heap.size ≤ q) := by
      refine ⟨fun q => q = m ∨ wrF g vd vp q, ⟨D, P, vd, vp, (hW.only (Only.of_grown hg3 (F := fun q => q = m) (fun q e => by injection e with e; exact .inl e.symm)) (fun q hq e => Hnm.out (e ▸ hq))).below hbn, (hM1.kept hg3 (by omega)).below hbn (by rw [hzs]; omega), (hM2.kept hg3 (by omega)).below hbn (by rw [hzs]; omega), (hf0.kept hg3 (by simp; omega)).below hbn (by rw [hzs]; omega), (hr0.kept hg3 (by simp; omega)).below hbn (by rw [hzs]; omega), ?_, fun h => absurd h hno, ?_, rfl⟩, ?_, fun q h => .inl h⟩
      · have := (hm0.set 0 (.bool true)).below hbn (by rw [hzs]; omega)
        rw [decide_eq_false hno]; exact this
      · have h9 : (acc ++ [(true, t0, t1, t2)]).length = acc.length + 1 := by simp
        rw [h9]; omega
      · exact (Only.of_grown hg3 (F := fun q => q = m ∨ wrF g vd vp q) (fun q e => by injection e with e; exact .inl (.inl e.symm))).trans (Only.of_below hbn (Nat.le_refl _) : Only (fun _ => False) _ _) (fun q h => h.elim)
    have Hq := veil hq
    clear hzs hbn hno hbk2 hbk3 hm3 hg3 hW hM1 hM2 hf0 hr0 hm0 hbits hlen hft hbk hgf hgt hwx hq
    unfold tokV
    go_enter Try.func34, Try.ntmps34
    go_wp2_with (first
      | (at_lookup; refine wpList_lookF _ rfl (.tmp 15) (.tmp 17) rfl b1 n1 (symF fw) s1 rfl hM1a t0 rfl Hwx.out (0, 0) false (by rw [Hq.out]; rfl) (by rw [Hq.out]; rfl) ?_)
      | fail)
    exact bodyPost_ret (results_none (fn := Try.f34) rfl _ _ _) rfl ⟨rfl, hres.out⟩
  | some p =>
    obtain ⟨p1, p2⟩ := p
    have hok := sym_ok hpf hq
    have hok2 := good_ok hgt
    have hbk2 := below1 (W.alloc (.cells #[.int .i64 t0, .int .i64 t1, .int .i64 t2] 76)) (.cells #[.int .i64 p1, .int .i64 p2] 78)
    have hbk3 := hbk.trans (hbk2.mono (by omega))
    have hW3 := hW.below hbk3
    have hDl : D.length ≤ 200000 := by rw [List.length_append, unpack_length] at hlen; omega
    have HA := veil (add_any B g D P vd vp p1 p2 _ hW3 hok (by omega))
    have hM13 := hM1.below hbk3 (by omega)
    have hM23 := hM2.below hbk3 (by omega)
    have hf3 := hf0.below hbk3 (by omega)
    have hr3 := hr0.below hbk3 (by omega)
    have hm3 := hm0.below hbk3 hml
    have hB3 := hB1.below hbk2 (by omega)
    have hz3 : ((W.alloc (.cells #[.int .i64 t0, .int .i64 t1, .int .i64 t2] 76)).alloc (.cells #[.int .i64 p1, .int .i64 p2] 78)).heap.size = W.heap.size + 2 := by simp
    have hon3 : Only (fun _ => False) W ((W.alloc (.cells #[.int .i64 t0, .int .i64 t1, .int .i64 t2] 76)).alloc (.cells #[.int .i64 p1, .int .i64 p2] 78)) := Only.of_below hbk3 (Nat.le_refl _)
    have Hq := veil hq
    have Hbits := veil hbits
    have HM13 := veil hM13; have HM23 := veil hM23; have Hf3 := veil hf3; have Hr3 := veil hr3; have Hm3 := veil hm3; have HB3 := veil hB3; have Hon3 := veil hon3; have Hft := veil hft; have Hlen := veil hlen; have Hok2 := veil hok2; have Hok := veil hok; have Hpf := veil hpf
    clear hbk2 hbk3 hW hM1 hM2 hf0 hr0 hm0 hbits hlen hft hbk hgf hgt hwx hq hok hok2 hW3 hM13 hM23 hf3 hr3 hm3 hB3 hon3 hpf
    unfold tokV
    go_enter Try.func34, Try.ntmps34
    go_wp2_with (first
      | (at_lookup; refine wpList_lookF _ rfl (.tmp 15) (.tmp 17) rfl b1 n1 (symF fw) s1 rfl hM1a t0 rfl Hwx.out (p1, p2) true (by rw [Hq.out]; rfl) (by rw [Hq.out]; rfl) ?_)
      | fail)
    refine HA.out.mono ?_
    rintro e w4 ⟨rfl, D4, P4, vd4, vp4, hW4, hb4, hon4, hsub4⟩
    have hz4 := hon4.size
    rw [hz3] at hz4 hsub4
    have hnw : ∀ q, q < g → ¬ wrF g vd vp q := fun q hq h => by have := (Hft.out q h).2; omega
    have hnw2 : ∀ q, W.heap.size ≤ q → ¬ wrF g vd vp q := fun q hq h => by have := (Hft.out q h).1; omega
    have hnm := Hnm.out
    have hT4 := hon4.blk HB3.out (hnw2 _ (Nat.le_refl _))
    have k1 := hT4.cell (i := 1) (v := .int .i64 t1) rfl
    have k2 := hT4.cell (i := 2) (v := .int .i64 t2) rfl
    have hl4 := congrArg List.length hb4
    rw [show (unpack D ++ fieldBits P ++ bitsN p1.toNat p2.toNat).length = (unpack D ++ fieldBits P).length + (bitsN p1.toNat p2.toNat).length from List.length_append, bitsN_length] at hl4
    have hp16 : p1.toNat ≤ 24 := by have := Hok.out.1; simp only at this; omega
    have hlen4 := Hlen.out
    have hD4 : D4.length ≤ 1000000 := by
      have h9 : (unpack D4 ++ fieldBits P4).length = 8 * D4.length + (fieldBits P4).length := by rw [List.length_append, unpack_length]
      omega
    have HA2 := veil (add_any B g D4 P4 vd4 vp4 t1 t2 w4 hW4 Hok2.out hD4)
    have Hnm4 : Hid (¬ wrF g vd4 vp4 m) := fun h => by
      rcases h with h | h | h
      · omega
      · have := (hW4.own.head.lt m h).1; omega
      · have := (hW4.own.tail.head.lt m h).1; omega
    have hnw4 : ∀ q, q < g → ¬ wrF g vd4 vp4 q := fun q hq h => by have := (hW4.foot h).2; omega
    have HM14 := veil (HM13.out.only hon4 (hnw _ hb1)); have HM24 := veil (HM23.out.only hon4 (hnw _ hb2)); have Hf4 := veil (hon4.blk Hf3.out (hnw _ hf)); have Hr4 := veil (hon4.blk Hr3.out (hnw _ hr)); have Hm4 := veil (hon4.blk Hm3.out hnm)
    have Hnw4 := veil hnw4; have Hon4 := veil hon4; have Hsub4 := veil hsub4; have Hb4 := veil hb4; have Hl4 := veil hl4
    have Hlen4 := veil hlen4
    clear HA hW4 hb4 hl4 hnw4 hon4 hsub4 hT4 hnm hlen4 hD4
    go_wp2_with fail
    refine HA2.out.mono ?_
    rintro e w5 ⟨rfl, D5, P5, vd5, vp5, hW5, hb5, hon5, hsub5⟩
    have hm5 := hon5.blk Hm4.out Hnm4.out
    have hiff : AllW fw rw_ (acc ++ [(true, t0, t1, t2)]) ↔ AllW fw rw_ acc := by
      rw [allW_snoc]
      have h3 : (symF fw t0).isSome = true := by rw [Hq.out]; rfl
      exact ⟨fun h => h.1, fun h => ⟨h, h3⟩⟩
    have hdec : (!decide (AllW fw rw_ (acc ++ [(true, t0, t1, t2)]))) = (!decide (AllW fw rw_ acc)) := by rw [decide_eq_decide.2 hiff]
    have hlen5 : (unpack D5 ++ fieldBits P5).length ≤ 40 * (acc ++ [(true, t0, t1, t2)]).length := by
      have h9 : (acc ++ [(true, t0, t1, t2)]).length = acc.length + 1 := by simp
      have h8 := congrArg List.length hb5
      rw [show (unpack D4 ++ fieldBits P4 ++ bitsN t1.toNat t2.toNat).length = (unpack D4 ++ fieldBits P4).length + (bitsN t1.toNat t2.toNat).length from List.length_append, bitsN_length] at h8
      have h7 : t1.toNat ≤ 12 := by have := (goodT_fit Hgt.out).1; simp only at this; omega
      have h6 := Hl4.out
      have h5 := Hlen4.out
      have h4 : p1.toNat ≤ 16 := sym_short Hpf.out Hq.out
      rw [h9]; omega
    have hbits5 : AllW fw rw_ (acc ++ [(true, t0, t1, t2)]) → unpack D5 ++ fieldBits P5 = segBits fw rw_ (acc ++ [(true, t0, t1, t2)]) := fun h => by
      have h2 := Hbits.out (hiff.1 h)
      rw [hb5, Hb4.out, h2, segBits_append, segBits_one]
      show _ = segBits fw rw_ acc ++ (symBits fw t0 ++ bitsN t1.toNat t2.toNat)
      unfold symBits
      rw [Hq.out, List.append_assoc]; rfl
    have hsub6 : ∀ q, (q = m ∨ wrF g vd5 vp5 q) → (q = m ∨ wrF g vd vp q) ∨ W.heap.size ≤ q := fun q hq => by
      rcases hq with h | h
      · exact .inl (.inl h)
      · rcases hsub5 q h with h | h
        · rcases Hsub4.out q h with h | h
          · exact .inl (.inr h)
          · right; omega
        · right; omega
    have hon6 : Only (fun q => q = m ∨ wrF g vd vp q) W w5 := ((((Hon3.out.mono (fun q h => h.elim) : Only (fun q => q = m ∨ wrF g vd vp q) W _)).trans Hon4.out (fun q h => .inl (.inr h)))).trans hon5 (fun q h => by
      rcases Hsub4.out q h with h | h
      · exact .inl (.inr h)
      · right; omega)
    have hres : Hid (∃ F', encI fw rw_ n1 s1 n2 s2 b1 b2 f r m g B w5 F' (acc ++ [(true, t0, t1, t2)]) ∧ Only (fun q => q = m ∨ wrF g vd vp q) W w5 ∧ ∀ q, F' q → (q = m ∨ wrF g vd vp q) ∨ W.heap.size ≤ q) :=
      ⟨fun q => q = m ∨ wrF g vd5 vp5 q, ⟨D5, P5, vd5, vp5, hW5, HM14.out.only hon5 (Hnw4.out _ hb1), HM24.out.only hon5 (Hnw4.out _ hb2), hon5.blk Hf4.out (Hnw4.out _ hf), hon5.blk Hr4.out (Hnw4.out _ hr), by rw [hdec]; exact hm5, hbits5, hlen5, rfl⟩, hon6, hsub6⟩
    clear hW5 hb5 hon5 hsub5 hm5 hiff hdec hlen5 hbits5 hsub6 hon6 k1 k2
    go_wp2_with fail
    go_end0
    exact ⟨rfl, hres.out⟩

set_option maxRecDepth 100000 in
set_option maxHeartbeats 4000000 in
theorem enc_false (fw rw_ : List (Int × Nat × Nat)) (n1 s1 n2 s2 b1 b2 f r m g B : Nat) (hpf : PF rw_) (t : Int × Int × Int) (W : World) (F : Nat → Prop) (acc : List (Bool × Int × Int × Int)) (h : encI fw rw_ n1 s1 n2 s2 b1 b2 f r m g B W F acc) (hacc : acc.length < 25600) (hgt : goodT t) (hf : f < g) (hr : r < g) (hb1 : b1 < g) (hb2 : b2 < g) (hgm : g < m) (hmB : m < B) :
    Calls Try.prog 34 #[tokV t, .bool false, .pointer (some ⟨r, 0, none⟩), .pointer (some ⟨f, 0, none⟩), .pointer (some ⟨m, 0, none⟩), .pointer (some ⟨g, 0, none⟩)] W fun e W' => e = .returned (.tuple #[]) ∧ ∃ F', encI fw rw_ n1 s1 n2 s2 b1 b2 f r m g B W' F' (acc ++ [(false, t)]) ∧ Only F W W' ∧ ∀ q, F' q → F q ∨ W.heap.size ≤ q := by
  obtain ⟨D, P, vd, vp, hW, hM1, hM2, hf0, hr0, hm0, hbits, hlen, rfl⟩ := h
  obtain ⟨t0, t1, t2⟩ := t
  have hgl := hW.blk.lt
  have hml := hm0.lt
  have hft := fun (q : Nat) (hq : wrF g vd vp q) => hW.foot hq
  have hbk := below1 W (.cells #[.int .i64 t0, .int .i64 t1, .int .i64 t2] 76)
  have hz1 : (W.alloc (.cells #[.int .i64 t0, .int .i64 t1, .int .i64 t2] 76)).heap.size = W.heap.size + 1 := by simp
  have hM1a := hM1.below hbk (by omega)
  have hM2a := hM2.below hbk (by omega)
  have cf := (hf0.below hbk (by omega)).cell (i := 0) (v := .map (some b1)) rfl
  have cr := (hr0.below hbk (by omega)).cell (i := 0) (v := .map (some b2)) rfl
  have hB1 : Blk (W.alloc (.cells #[.int .i64 t0, .int .i64 t1, .int .i64 t2] 76)) W.heap.size [.int .i64 t0, .int .i64 t1, .int .i64 t2] 76 := Blk.new W [.int .i64 t0, .int .i64 t1, .int .i64 t2] 76
  have hgf := goodT_fit hgt
  have hwx : WF t0 := wf_of (by have := hgt.2; simp only at this; omega)
  have Hwx := veil hwx
  have Hgt := veil hgt
  have Hnm : Hid (¬ wrF g vd vp m) := fun h => by
    rcases h with h | h | h
    · omega
    · have := (hW.own.head.lt m h).1; omega
    · have := (hW.own.tail.head.lt m h).1; omega
  cases hq : symF rw_ t0 with
  | none =>
    have hno : ¬ AllW fw rw_ (acc ++ [(false, t0, t1, t2)]) := fun h => by
      have h2 := (allW_snoc.1 h).2
      have h3 : (symF rw_ t0).isSome = true := h2
      rw [hq] at h3; cases h3
    have hbk2 := below1 (W.alloc (.cells #[.int .i64 t0, .int .i64 t1, .int .i64 t2] 76)) (.cells #[.int .i64 0, .int .i64 0] 78)
    have hbk3 := hbk.trans (hbk2.mono (by omega))
    have hm3 := hm0.below hbk3 hml
    have cm := hm3.cell (i := 0) (v := .bool (!decide (AllW fw rw_ acc))) rfl
    have zm := hm3.frozen 0
    have hg3 := grown_setCell W m 0 (.bool true)
    have hzs : (W.setCell ⟨m, 0, none⟩ (.bool true)).heap.size = W.heap.size := by simp [World.setCell]
    have hbn := below2 (W.setCell ⟨m, 0, none⟩ (.bool true)) (.cells #[.int .i64 t0, .int .i64 t1, .int .i64 t2] 76) (.cells #[.int .i64 0, .int .i64 0] 78)
    have hres : Hid (∃ F', encI fw rw_ n1 s1 n2 s2 b1 b2 f r m g B (((W.setCell ⟨m, 0, none⟩ (.bool true)).alloc (.cells #[.int .i64 t0, .int .i64 t1, .int .i64 t2] 76)).alloc (.cells #[.int .i64 0, .int .i64 0] 78)) F' (acc ++ [(false, t0, t1, t2)]) ∧ Only (fun q => q = m ∨ wrF g vd vp q) W (((W.setCell ⟨m, 0, none⟩ (.bool true)).alloc (.cells #[.int .i64 t0, .int .i64 t1, .int .i64 t2] 76)).alloc (.cells #[.int .i64 0, .int .i64 0] 78)) ∧ ∀ q, F' q → (q = m ∨ wrF g vd vp q) ∨ W.heap.size ≤ q) := by
      refine ⟨fun q => q = m ∨ wrF g vd vp q, ⟨D, P, vd, vp, (hW.only (Only.of_grown hg3 (F := fun q => q = m) (fun q e => by injection e with e; exact .inl e.symm)) (fun q hq e => Hnm.out (e ▸ hq))).below hbn, (hM1.kept hg3 (by omega)).below hbn (by rw [hzs]; omega), (hM2.kept hg3 (by omega)).below hbn (by rw [hzs]; omega), (hf0.kept hg3 (by simp; omega)).below hbn (by rw [hzs]; omega), (hr0.kept hg3 (by simp; omega)).below hbn (by rw [hzs]; omega), ?_, fun h => absurd h hno, ?_, rfl⟩, ?_, fun q h => .inl h⟩
      · have := (hm0.set 0 (.bool true)).below hbn (by rw [hzs]; omega)
        rw [decide_eq_false hno]; exact this
      · have h9 : (acc ++ [(false, t0, t1, t2)]).length = acc.length + 1 := by simp
        rw [h9]; omega
      · exact (Only.of_grown hg3 (F := fun q => q = m ∨ wrF g vd vp q) (fun q e => by injection e with e; exact .inl (.inl e.symm))).trans (Only.of_below hbn (Nat.le_refl _) : Only (fun _ => False) _ _) (fun q h => h.elim)
    have Hq := veil hq
    clear hzs hbn hno hbk2 hbk3 hm3 hg3 hW hM1 hM2 hf0 hr0 hm0 hbits hlen hft hbk hgf hgt hwx hq
    unfold tokV
    go_enter Try.func34, Try.ntmps34
    go_wp2_with (first
      | (at_lookup; refine wpList_lookF _ rfl (.tmp 15) (.tmp 17) rfl b2 n2 (symF rw_) s2 rfl hM2a t0 rfl Hwx.out (0, 0) false (by rw [Hq.out]; rfl) (by rw [Hq.out]; rfl) ?_)
      | fail)
    exact bodyPost_ret (results_none (fn := Try.f34) rfl _ _ _) rfl ⟨rfl, hres.out⟩
  | some p =>
    obtain ⟨p1, p2⟩ := p
    have hok := sym_ok hpf hq
    have hok2 := good_ok hgt
    have hbk2 := below1 (W.alloc (.cells #[.int .i64 t0, .int .i64 t1, .int .i64 t2] 76)) (.cells #[.int .i64 p1, .int .i64 p2] 78)
    have hbk3 := hbk.trans (hbk2.mono (by omega))
    have hW3 := hW.below hbk3
    have hDl : D.length ≤ 200000 := by rw [List.length_append, unpack_length] at hlen; omega
    have HA := veil (add_any B g D P vd vp p1 p2 _ hW3 hok (by omega))
    have hM13 := hM1.below hbk3 (by omega)
    have hM23 := hM2.below hbk3 (by omega)
    have hf3 := hf0.below hbk3 (by omega)
    have hr3 := hr0.below hbk3 (by omega)
    have hm3 := hm0.below hbk3 hml
    have hB3 := hB1.below hbk2 (by omega)
    have hz3 : ((W.alloc (.cells #[.int .i64 t0, .int .i64 t1, .int .i64 t2] 76)).alloc (.cells #[.int .i64 p1, .int .i64 p2] 78)).heap.size = W.heap.size + 2 := by simp
    have hon3 : Only (fun _ => False) W ((W.alloc (.cells #[.int .i64 t0, .int .i64 t1, .int .i64 t2] 76)).alloc (.cells #[.int .i64 p1, .int .i64 p2] 78)) := Only.of_below hbk3 (Nat.le_refl _)
    have Hq := veil hq
    have Hbits := veil hbits
    have HM13 := veil hM13; have HM23 := veil hM23; have Hf3 := veil hf3; have Hr3 := veil hr3; have Hm3 := veil hm3; have HB3 := veil hB3; have Hon3 := veil hon3; have Hft := veil hft; have Hlen := veil hlen; have Hok2 := veil hok2; have Hok := veil hok; have Hpf := veil hpf
    clear hbk2 hbk3 hW hM1 hM2 hf0 hr0 hm0 hbits hlen hft hbk hgf hgt hwx hq hok hok2 hW3 hM13 hM23 hf3 hr3 hm3 hB3 hon3 hpf
    unfold tokV
    go_enter Try.func34, Try.ntmps34
    go_wp2_with (first
      | (at_lookup; refine wpList_lookF _ rfl (.tmp 15) (.tmp 17) rfl b2 n2 (symF rw_) s2 rfl hM2a t0 rfl Hwx.out (p1, p2) true (by rw [Hq.out]; rfl) (by rw [Hq.out]; rfl) ?_)
      | fail)
    refine HA.out.mono ?_
    rintro e w4 ⟨rfl, D4, P4, vd4, vp4, hW4, hb4, hon4, hsub4⟩
    have hz4 := hon4.size
    rw [hz3] at hz4 hsub4
    have hnw : ∀ q, q < g → ¬ wrF g vd vp q := fun q hq h => by have := (Hft.out q h).2; omega
    have hnw2 : ∀ q, W.heap.size ≤ q → ¬ wrF g vd vp q := fun q hq h => by have := (Hft.out q h).1; omega
    have hnm := Hnm.out
    have hT4 := hon4.blk HB3.out (hnw2 _ (Nat.le_refl _))
    have k1 := hT4.cell (i := 1) (v := .int .i64 t1) rfl
    have k2 := hT4.cell (i := 2) (v := .int .i64 t2) rfl
    have hl4 := congrArg List.length hb4
    rw [show (unpack D ++ fieldBits P ++ bitsN p1.toNat p2.toNat).length = (unpack D ++ fieldBits P).length + (bitsN p1.toNat p2.toNat).length from List.length_append, bitsN_length] at hl4
    have hp16 : p1.toNat ≤ 24 := by have := Hok.out.1; simp only at this; omega
    have hlen4 := Hlen.out
    have hD4 : D4.length ≤ 1000000 := by
      have h9 : (unpack D4 ++ fieldBits P4).length = 8 * D4.length + (fieldBits P4).length := by rw [List.length_append, unpack_length]
      omega
    have HA2 := veil (add_any B g D4 P4 vd4 vp4 t1 t2 w4 hW4 Hok2.out hD4)
    have Hnm4 : Hid (¬ wrF g vd4 vp4 m) := fun h => by
      rcases h with h | h | h
      · omega
      · have := (hW4.own.head.lt m h).1; omega
      · have := (hW4.own.tail.head.lt m h).1; omega
    have hnw4 : ∀ q, q < g → ¬ wrF g vd4 vp4 q := fun q hq h => by have := (hW4.foot h).2; omega
    have HM14 := veil (HM13.out.only hon4 (hnw _ hb1)); have HM24 := veil (HM23.out.only hon4 (hnw _ hb2)); have Hf4 := veil (hon4.blk Hf3.out (hnw _ hf)); have Hr4 := veil (hon4.blk Hr3.out (hnw _ hr)); have Hm4 := veil (hon4.blk Hm3.out hnm)
    have Hnw4 := veil hnw4; have Hon4 := veil hon4; have Hsub4 := veil hsub4; have Hb4 := veil hb4; have Hl4 := veil hl4
    have Hlen4 := veil hlen4
    clear HA hW4 hb4 hl4 hnw4 hon4 hsub4 hT4 hnm hlen4 hD4
    go_wp2_with fail
    refine HA2.out.mono ?_
    rintro e w5 ⟨rfl, D5, P5, vd5, vp5, hW5, hb5, hon5, hsub5⟩
    have hm5 := hon5.blk Hm4.out Hnm4.out
    have hiff : AllW fw rw_ (acc ++ [(false, t0, t1, t2)]) ↔ AllW fw rw_ acc := by
      rw [allW_snoc]
      have h3 : (symF rw_ t0).isSome = true := by rw [Hq.out]; rfl
      exact ⟨fun h => h.1, fun h => ⟨h, h3⟩⟩
    have hdec : (!decide (AllW fw rw_ (acc ++ [(false, t0, t1, t2)]))) = (!decide (AllW fw rw_ acc)) := by rw [decide_eq_decide.2 hiff]
    have hlen5 : (unpack D5 ++ fieldBits P5).length ≤ 40 * (acc ++ [(false, t0, t1, t2)]).length := by
      have h9 : (acc ++ [(false, t0, t1, t2)]).length = acc.length + 1 := by simp
      have h8 := congrArg List.length hb5
      rw [show (unpack D4 ++ fieldBits P4 ++ bitsN t1.toNat t2.toNat).length = (unpack D4 ++ fieldBits P4).length + (bitsN t1.toNat t2.toNat).length from List.length_append, bitsN_length] at h8
      have h7 : t1.toNat ≤ 12 := by have := (goodT_fit Hgt.out).1; simp only at this; omega
      have h6 := Hl4.out
      have h5 := Hlen4.out
      have h4 : p1.toNat ≤ 16 := sym_short Hpf.out Hq.out
      rw [h9]; omega
    have hbits5 : AllW fw rw_ (acc ++ [(false, t0, t1, t2)]) → unpack D5 ++ fieldBits P5 = segBits fw rw_ (acc ++ [(false, t0, t1, t2)]) := fun h => by
      have h2 := Hbits.out (hiff.1 h)
      rw [hb5, Hb4.out, h2, segBits_append, segBits_one]
      show _ = segBits fw rw_ acc ++ (symBits rw_ t0 ++ bitsN t1.toNat t2.toNat)
      unfold symBits
      rw [Hq.out, List.append_assoc]; rfl
    have hsub6 : ∀ q, (q = m ∨ wrF g vd5 vp5 q) → (q = m ∨ wrF g vd vp q) ∨ W.heap.size ≤ q := fun q hq => by
      rcases hq with h | h
      · exact .inl (.inl h)
      · rcases hsub5 q h with h | h
        · rcases Hsub4.out q h with h | h
          · exact .inl (.inr h)
          · right; omega
        · right; omega
    have hon6 : Only (fun q => q = m ∨ wrF g vd vp q) W w5 := ((((Hon3.out.mono (fun q h => h.elim) : Only (fun q => q = m ∨ wrF g vd vp q) W _)).trans Hon4.out (fun q h => .inl (.inr h)))).trans hon5 (fun q h => by
      rcases Hsub4.out q h with h | h
      · exact .inl (.inr h)
      · right; omega)
    have hres : Hid (∃ F', encI fw rw_ n1 s1 n2 s2 b1 b2 f r m g B w5 F' (acc ++ [(false, t0, t1, t2)]) ∧ Only (fun q => q = m ∨ wrF g vd vp q) W w5 ∧ ∀ q, F' q → (q = m ∨ wrF g vd vp q) ∨ W.heap.size ≤ q) :=
      ⟨fun q => q = m ∨ wrF g vd5 vp5 q, ⟨D5, P5, vd5, vp5, hW5, HM14.out.only hon5 (Hnw4.out _ hb1), HM24.out.only hon5 (Hnw4.out _ hb2), hon5.blk Hf4.out (Hnw4.out _ hf), hon5.blk Hr4.out (Hnw4.out _ hr), by rw [hdec]; exact hm5, hbits5, hlen5, rfl⟩, hon6, hsub6⟩
    clear hW5 hb5 hon5 hsub5 hm5 hiff hdec hlen5 hbits5 hsub6 hon6 k1 k2
    go_wp2_with fail
    go_end0
    exact ⟨rfl, hres.out⟩
end Go.Proofs.Ytddkhkpdbjjboaa

/- Two tables in one value; the reference's TablesCheck: its contract. -/
namespace Go.Proofs.Ytddkhkpdbjjboaa
open Go.RowKit
set_option linter.unusedVariables false
set_option linter.unusedSimpArgs false
set_option maxRecDepth 100000

/-- Two tables' cells. -/
def tabsCells (cs : List Int) (A : Option Addr) (n c : Nat) (cs2 : List Int) (A2 : Option Addr) (n2 c2 : Nat) : List Value := tabCells cs A n c ++ tabCells cs2 A2 n2 c2
abbrev tabsV (cs : List Int) (A : Option Addr) (n c : Nat) (cs2 : List Int) (A2 : Option Addr) (n2 c2 : Nat) : Value := .agg (tabsCells cs A n c cs2 A2 n2 c2).toArray
/-- What a check of both answers. -/
def eTs (cs syms cs2 syms2 : List Int) : Int := if checkErr cs syms = 0 then checkErr cs2 syms2 else checkErr cs syms
theorem range_right {w : World} {b o : Nat} {xs ys : List Value} (h : w.rangeAt b o (xs ++ ys)) : w.rangeAt b (o + xs.length) ys := fun j v hv => by
  have := h (xs.length + j) v (by rw [List.getElem?_append_right (by omega), Nat.add_sub_cancel_left]; exact hv)
  rw [Nat.add_assoc]; exact this
end Go.Proofs.Ytddkhkpdbjjboaa

/- Blocks out of bits, in numbers: what is read lies within its bounds; a reading under way. -/
namespace Go.Proofs.Ytddkhkpdbjjboaa
set_option linter.unusedVariables false
set_option linter.unusedSimpArgs false
set_option maxRecDepth 100000

section
variable {σ : Type} {step : Bool → σ → Int ⊕ ((Int × Int × Int) × σ)}
theorem gR_in (hne : ∀ b s e, step b s = .inl e → e ≠ 0) : ∀ (k : Nat) (s : σ), (gR step k s).1 = 0 → (gR step k s).2.1.length = k ∧ (∀ z ∈ (gR step k s).2.1, -2047 ≤ z ∧ z ≤ 2047) ∧ ∃ s', (gR step k s).2.2.2 = some s' := by
  intro k
  induction k using Nat.strongRecOn with
  | _ k ih =>
    intro s h
    cases k with
    | zero => rw [gR]; exact ⟨rfl, by simp, s, rfl⟩
    | succ k =>
      rw [gR] at h ⊢
      cases hst : step false s with
      | inl e => rw [hst] at h; exact absurd h (hne _ _ _ hst)
      | inr q =>
        obtain ⟨t, s2⟩ := q
        rw [hst] at h
        simp only [] at h ⊢
        by_cases h1 : okT t = true
        · rw [if_pos h1] at h ⊢
          by_cases h2 : t.1 = 0
          · rw [if_pos h2]
            exact ⟨by simp, fun z hz => by rw [(List.mem_replicate.1 hz).2]; omega, s2, rfl⟩
          · rw [if_neg h2] at h ⊢
            by_cases h3 : k + 1 < farT t
            · rw [if_pos h3] at h; simp at h
            · rw [if_neg h3] at h ⊢
              have hp : 0 < farT t := by unfold farT; omega
              by_cases h4 : (gR step (k + 1 - farT t) s2).1 = 0
              · obtain ⟨g1, g2, s', g3⟩ := ih (k + 1 - farT t) (by omega) s2 h4
                rw [if_pos h4]
                refine ⟨by simp only [List.length_append, List.length_replicate, List.length_cons, g1]; omega, fun z hz => ?_, s', g3⟩
                rcases List.mem_append.1 hz with hz | hz
                · rw [(List.mem_replicate.1 hz).2]; omega
                · rcases List.mem_cons.1 hz with rfl | hz
                  · exact okQ_num (okT_okQ h1)
                  · exact g2 z hz
              · rw [if_neg h4] at h; exact absurd h h4
        · rw [if_neg h1] at h; simp at h
theorem gB_in (hne : ∀ b s e, step b s = .inl e → e ≠ 0) {before : Int} {s : σ} (h : (gB step before s).1 = 0) : (gB step before s).2.1.length = 64 ∧ (∀ z ∈ (gB step before s).2.1, -2047 ≤ z ∧ z ≤ 2047) ∧ (∃ s', (gB step before s).2.2.2 = some s') ∧ toksZ before (gB step before s).2.1 = (gB step before s).2.2.1 := by
  cases hst : step true s with
  | inl e => rw [gB_none hst] at h; exact absurd h (hne _ _ _ hst)
  | inr q =>
    obtain ⟨t, s2⟩ := q
    by_cases hf : firstT before t
    · rw [gB_go hst hf] at h ⊢
      by_cases h4 : (gR step 63 s2).1 = 0
      · obtain ⟨g1, g2, s', g3⟩ := gR_in hne 63 s2 h4
        unfold joinG at h ⊢
        rw [if_pos h4] at h ⊢
        unfold finG at h ⊢
        rw [if_pos rfl] at h ⊢
        by_cases h5 : toksZ before ([before + numT t] ++ (gR step 63 s2).2.1) = [t] ++ (gR step 63 s2).2.2.1
        · rw [if_pos h5]
          refine ⟨by simp [g1], fun z hz => ?_, ⟨s', g3⟩, h5⟩
          rcases List.mem_append.1 hz with hz | hz
          · rw [List.mem_singleton.1 hz]; exact hf.2.2
          · exact g2 z hz
        · rw [if_neg h5] at h; simp at h
      · unfold joinG at h
        rw [if_neg h4] at h
        unfold finG at h
        rw [if_neg h4] at h
        exact absurd h h4
    · rw [gB_bad hst hf] at h; simp at h
theorem head_in {zs : List Int} (h1 : zs.length = 64) (h2 : ∀ z ∈ zs, -2047 ≤ z ∧ z ≤ 2047) : -2047 ≤ (fromL zs).headD 0 ∧ (fromL zs).headD 0 ≤ 2047 := by
  have hl := fromL_length zs
  match hf : fromL zs, hl with
  | z :: l, _ => exact h2 z (fromL_mem h1 (by rw [hf]; exact List.mem_cons_self))
theorem inB_from {zs : List Int} (h1 : zs.length = 64) (h2 : ∀ z ∈ zs, -2047 ≤ z ∧ z ≤ 2047) : inB (-2047) 2047 (fromL zs) = true := inB_mem.2 fun z hz => h2 z (fromL_mem h1 hz)
end
/-- Blocks read so far, and what is still to read. -/
def joinS (acc : List (List Int)) (q : Int × List (List Int) × List Bool) : Int × List (List Int) × List Bool := if q.1 = 0 then (0, acc ++ q.2.1, q.2.2) else (q.1, [], [])
theorem joinS_nil_eq {fw rw_ : List (Int × Nat × Nat)} : ∀ (n : Nat) (before : Int) (b : List Bool), joinS [] (decS fw rw_ n before b) = decS fw rw_ n before b
  | 0, before, b => rfl
  | n + 1, before, b => by
    rw [decS]
    by_cases h : (gB (stepS fw rw_) before b).1 = 0
    · rw [if_pos h]
      simp only []
      by_cases h2 : (decS fw rw_ n ((fromL (gB (stepS fw rw_) before b).2.1).headD 0) ((gB (stepS fw rw_) before b).2.2.2.getD [])).1 = 0
      · rw [if_pos h2]; rfl
      · rw [if_neg h2]; unfold joinS; rw [if_neg h2]
    · rw [if_neg h]; unfold joinS; rw [if_neg h]
theorem joinS_joinS (a b : List (List Int)) (q : Int × List (List Int) × List Bool) : joinS a (joinS b q) = joinS (a ++ b) q := by
  unfold joinS
  by_cases h : q.1 = 0
  · simp [h]
  · simp [h]
theorem decS_err {fw rw_ : List (Int × Nat × Nat)} {before : Int} {b : List Bool} (h : (gB (stepS fw rw_) before b).1 ≠ 0) (n : Nat) : decS fw rw_ (n + 1) before b = ((gB (stepS fw rw_) before b).1, [], []) := by
  rw [decS, if_neg h]
theorem decS_ok {fw rw_ : List (Int × Nat × Nat)} {before : Int} {b s' : List Bool} (h : (gB (stepS fw rw_) before b).1 = 0) (hs : (gB (stepS fw rw_) before b).2.2.2 = some s') (n : Nat) : decS fw rw_ (n + 1) before b = joinS [outBk (gB (stepS fw rw_) before b)] (decS fw rw_ n ((outBk (gB (stepS fw rw_) before b)).headD 0) s') := by
  rw [decS, if_pos h, hs]
  unfold outBk joinS
  rw [if_pos h]
  rfl
/-- Where a reading of n blocks stands. -/
def DS (fw rw_ : List (Int × Nat × Nat)) (n : Nat) (s0 : List Bool) (k : Nat) (acc : List (List Int)) (before : Int) (s : List Bool) : Prop :=
  acc.length = k ∧ (-2047 ≤ before ∧ before ≤ 2047) ∧ (∀ r ∈ acc, r.length = 64) ∧ decS fw rw_ n 0 s0 = joinS acc (decS fw rw_ (n - k) before s)
theorem DS.start (fw rw_ : List (Int × Nat × Nat)) (n : Nat) (s0 : List Bool) : DS fw rw_ n s0 0 [] 0 s0 := ⟨rfl, by omega, by simp, by rw [joinS_nil_eq]; rfl⟩
section
variable {fw rw_ : List (Int × Nat × Nat)} {n k : Nat} {s0 s s' : List Bool} {acc : List (List Int)} {before : Int}
theorem DS.err (h : DS fw rw_ n s0 k acc before s) (hk : k < n) (he : (gB (stepS fw rw_) before s).1 ≠ 0) : decS fw rw_ n 0 s0 = ((gB (stepS fw rw_) before s).1, [], []) := by
  rw [h.2.2.2, show n - k = (n - (k + 1)) + 1 by omega, decS_err he]
  unfold joinS; rw [if_neg he]
theorem DS.next (h : DS fw rw_ n s0 k acc before s) (hk : k < n) (he : (gB (stepS fw rw_) before s).1 = 0) (hs : (gB (stepS fw rw_) before s).2.2.2 = some s') :
    DS fw rw_ n s0 (k + 1) (acc ++ [outBk (gB (stepS fw rw_) before s)]) ((outBk (gB (stepS fw rw_) before s)).headD 0) s' := by
  obtain ⟨g1, g2, _, _⟩ := gB_in (fun _ _ _ h => stepS_ne h) he
  have e : outBk (gB (stepS fw rw_) before s) = fromL (gB (stepS fw rw_) before s).2.1 := if_pos he
  refine ⟨by simp [h.1], by rw [e]; exact head_in g1 g2, fun r hr => ?_, ?_⟩
  · rcases List.mem_append.1 hr with hr | hr
    · exact h.2.2.1 r hr
    · rw [List.mem_singleton.1 hr, e]; exact fromL_length _
  · rw [h.2.2.2, show n - k = (n - (k + 1)) + 1 by omega, decS_ok he hs, joinS_joinS]
theorem DS.done (h : DS fw rw_ n s0 n acc before s) : decS fw rw_ n 0 s0 = (0, acc, s) := by
  rw [h.2.2.2, Nat.sub_self, decS]; unfold joinS; simp
end
theorem outBk_length {σ : Type} {step : Bool → σ → Int ⊕ ((Int × Int × Int) × σ)} (before : Int) (s : σ) : (outBk (gB step before s)).length = 64 := by
  unfold outBk; split
  · exact fromL_length _
  · exact zero64_length
/-- What Decode answers. -/
def segD (cs syms cs2 syms2 bs : List Int) (n : Nat) : Int × List (List Int) × List Bool := decS (outWords cs syms) (outWords cs2 syms2) n 0 (unpack (plainOut bs))
def eDec (cs syms cs2 syms2 bs : List Int) (n : Int) : Int :=
  if eTs cs syms cs2 syms2 ≠ 0 then eTs cs syms cs2 syms2 else if n < 0 ∨ 400 < n then 1 else if plainErr bs ≠ 0 then plainErr bs
  else if (segD cs syms cs2 syms2 bs n.toNat).1 ≠ 0 then (segD cs syms cs2 syms2 bs n.toNat).1 else if fillB (segD cs syms cs2 syms2 bs n.toNat).2.2 = true then 0 else 4
def oDec (cs syms cs2 syms2 bs : List Int) (n : Int) : List (List Int) := if eDec cs syms cs2 syms2 bs n = 0 then (segD cs syms cs2 syms2 bs n.toNat).2.1 else []
theorem oDec_err {cs syms cs2 syms2 bs : List Int} {n : Int} (h : eDec cs syms cs2 syms2 bs n ≠ 0) : oDec cs syms cs2 syms2 bs n = [] := if_neg h
end Go.Proofs.Ytddkhkpdbjjboaa

/- seg.Encode: its contract. -/
namespace Go.Proofs.Ytddkhkpdbjjboaa
open Go.RowKit
set_option linter.unusedVariables false
set_option linter.unusedSimpArgs false
set_option maxRecDepth 100000

theorem enc_taker (fw rw_ : List (Int × Nat × Nat)) (n1 s1 n2 s2 b1 b2 f r m g B G : Nat) (hp1 : PF fw) (hp2 : PF rw_) (hf : f < g) (hr : r < g) (hb1 : b1 < g) (hb2 : b2 < g) (hgm : g < m) (hmB : m < B) (hG : G ≤ g) :
    Taker 34 #[.pointer (some ⟨r, 0, none⟩), .pointer (some ⟨f, 0, none⟩), .pointer (some ⟨m, 0, none⟩), .pointer (some ⟨g, 0, none⟩)] G (encI fw rw_ n1 s1 n2 s2 b1 b2 f r m g B) where
  enters := Enters.of Try.func34 (by kernel_rfl) (by kernel_rfl)
  foot h q hq := by
    obtain ⟨D, P, vd, vp, hW, _, _, _, _, hm, _, _, rfl⟩ := h
    rcases hq with rfl | hq
    · exact ⟨hm.lt, by omega⟩
    · have := hW.foot hq; exact ⟨this.1, by omega⟩
  keep h hb := by
    obtain ⟨D, P, vd, vp, hW, hM1, hM2, hf0, hr0, hm, h1, h2, rfl⟩ := h
    exact ⟨D, P, vd, vp, hW.below hb, hM1.below hb hM1.lt, hM2.below hb hM2.lt, hf0.below hb hf0.lt, hr0.below hb hr0.lt, hm.below hb hm.lt, h1, h2, rfl⟩
  take first t h ha hg := by
    cases first with
    | true => exact enc_true fw rw_ n1 s1 n2 s2 b1 b2 f r m g B hp1 t _ _ _ h ha hg hf hr hb1 hb2 hgm hmB
    | false => exact enc_false fw rw_ n1 s1 n2 s2 b1 b2 f r m g B hp2 t _ _ _ h ha hg hf hr hb1 hb2 hgm hmB
theorem words_pf2 {cs syms : List Int} (hcs : cs.length = 16) (h : checkErr cs syms = 0) : PF (outWords cs syms) := by
  obtain ⟨l, hf, how, hll⟩ := fine_of h
  rw [how]
  exact hf.pf hcs
/-- What Encode makes. -/
def SegOut (cs syms cs2 syms2 : List Int) (L : List (List Int)) (out : List Int) : Prop :=
  (eEnc cs syms cs2 syms2 L ≠ 0 → out = []) ∧ (eEnc cs syms cs2 syms2 L = 0 → ∃ raw, out = stuffB raw ∧ Bytes raw ∧ ∃ p, p < 8 ∧ unpack raw = segBits (outWords cs syms) (outWords cs2 syms2) (toksB 0 L) ++ List.replicate p true)
section
variable {cs syms cs2 syms2 : List Int} {L : List (List Int)}
theorem eEnc_one (h : checkErr cs syms ≠ 0) : eEnc cs syms cs2 syms2 L = checkErr cs syms := if_pos h
theorem eEnc_two (h : checkErr cs syms = 0) (h2 : checkErr cs2 syms2 ≠ 0) : eEnc cs syms cs2 syms2 L = checkErr cs2 syms2 := by unfold eEnc; rw [if_neg (by rw [h]; decide), if_pos h2]
theorem eEnc_blk (h : checkErr cs syms = 0) (h2 : checkErr cs2 syms2 = 0) (h3 : eL L ≠ 0) : eEnc cs syms cs2 syms2 L = eL L := by unfold eEnc; rw [if_neg (by rw [h]; decide), if_neg (by rw [h2]; decide), if_pos h3]
theorem eEnc_end (h : checkErr cs syms = 0) (h2 : checkErr cs2 syms2 = 0) (h3 : eL L = 0) : eEnc cs syms cs2 syms2 L = if AllW (outWords cs syms) (outWords cs2 syms2) (toksB 0 L) then 0 else 5 := by unfold eEnc; rw [if_neg (by rw [h]; decide), if_neg (by rw [h2]; decide), if_neg (by rw [h3]; decide)]
end
set_option maxRecDepth 100000 in
set_option maxHeartbeats 8000000 in
theorem segEncode_any (cs syms : List Int) (A : Option Addr) (c : Nat) (cs2 syms2 : List Int) (A2 : Option Addr) (c2 G : Nat) (L : List (List Int)) (A3 : Option Addr) (c3 : Nat) (w : World)
    (hcs : cs.length = 16) (hn : syms.length ≤ maxLen) (hb : ∀ x ∈ cs, -9223372036854775808 ≤ x ∧ x ≤ 9223372036854775807) (hs : Seen w G A (ints .i64 syms))
    (hcs2 : cs2.length = 16) (hn2 : syms2.length ≤ maxLen) (hb2 : ∀ x ∈ cs2, -9223372036854775808 ≤ x ∧ x ≤ 9223372036854775807) (hs2 : Seen w G A2 (ints .i64 syms2))
    (hl : ∀ r ∈ L, r.length = 64) (hm : L.length ≤ maxLen) (hs3 : Seen w G A3 (rowsC L)) (hG : G ≤ w.heap.size) :
    Calls Try.prog 16 #[tabsV cs A syms.length c cs2 A2 syms2.length c2, .slice A3 L.length c3] w fun e w' => ∃ v out, e = .returned (.tuple #[v, .int .i64 (eEnc cs syms cs2 syms2 L)]) ∧ Owns w.heap.size [byteRow v out] w' ∧ SegOut cs syms cs2 syms2 L out ∧ Below w.heap.size w w' := by
  have h17 : (tabCells cs A syms.length c).length = 17 := tabCells_length hcs
  have h17b : (tabCells cs2 A2 syms2.length c2).length = 17 := tabCells_length hcs2
  have HC1 := veil (fun W h hG => codewords_any cs syms A c G W hcs hn hb h hG)
  have HC2 := veil (fun W h hG => codewords_any cs2 syms2 A2 c2 G W hcs2 hn2 hb2 h hG)
  have hb0 := below1 w (.cells (tabsCells cs A syms.length c cs2 A2 syms2.length c2).toArray 27)
  have hz0 : (w.alloc (.cells (tabsCells cs A syms.length c cs2 A2 syms2.length c2).toArray 27)).heap.size = w.heap.size + 1 := by simp
  have hr := range_new w (tabsCells cs A syms.length c cs2 A2 syms2.length c2) 27
  have hr1 := range_left hr
  have hr2 := range_right hr
  rw [h17] at hr2
  have Hcs := veil hcs
  have Hcs2 := veil hcs2
  obtain ⟨E, hE⟩ : ∃ E, E = eEnc cs syms cs2 syms2 L := ⟨_, rfl⟩
  rw [← hE]
  have HSo : Hid (E ≠ 0 → SegOut cs syms cs2 syms2 L []) := fun h => ⟨fun _ => rfl, fun h2 => absurd h2 (by rw [← hE]; exact h)⟩
  have HE := veil hE
  have H17 := veil h17
  have H17b := veil h17b
  clear hr h17 h17b hcs hcs2 hb hb2 hE
  unfold tabsV
  unfold tabV at HC1 HC2
  generalize tabsCells cs A syms.length c cs2 A2 syms2.length c2 = zs at *
  generalize tabCells cs A syms.length c = xs at *
  generalize tabCells cs2 A2 syms2.length c2 = ys at *
  go_enter Try.func16, Try.ntmps16
  go_wp2_with (first
    | (refine wpList_load_mid rfl 25 (.tmp 12) rfl w.heap.size 0 rfl xs _ hr1 Try.underlying25 rfl (by rw [H17.out]; exact info_tab) ?_)
    | fail)
  refine (HC1.out _ (hs.below hb0 hG) (by rw [hz0]; omega)).mono ?_
  rintro e w1 ⟨v1, rfl, hok1, hbad1, hb1⟩
  have hr2' := range_below hr2 hb1 (by rw [hz0]; omega)
  have hbw := hb0.trans (hb1.mono (by rw [hz0]; omega))
  have hz1 := hb1.size
  rw [hz0] at hz1
  clear hr1 hr2 hb0 HC1
  by_cases h0 : checkErr cs syms = 0
  · obtain ⟨b1, rfl, hb1l, HM1⟩ := hok1 h0
    rw [h0]
    rw [hz0] at hb1l
    have H0 := veil h0
    have HM1 := veil HM1
    have hb1z := HM1.out.lt
    clear hok1 hbad1 h0 hb1
    have hba := below1 w1 (.cells #[.map (some b1)] 68)
    have hfv : Blk (w1.alloc (.cells #[.map (some b1)] 68)) w1.heap.size [.map (some b1)] 68 := Blk.new w1 [.map (some b1)] 68
    have hza : (w1.alloc (.cells #[.map (some b1)] 68)).heap.size = w1.heap.size + 1 := by simp
    have hr3 := range_below hr2' hba (by omega)
    have hbwa := hbw.trans (hba.mono hbw.size)
    have HM1a := HM1.out.below hba hb1z
    go_wp2_with (first
      | (refine wpList_load_mid rfl 25 (.tmp 21) rfl w.heap.size 17 rfl ys _ (by simpa using hr3) Try.underlying25 rfl (by rw [H17b.out]; exact info_tab) ?_)
      | fail)
    refine (HC2.out _ (hs2.below hbwa hG) (by omega)).mono ?_
    rintro e w2 ⟨v2, rfl, hok2, hbad2, hb2⟩
    have hbw2 := hbwa.trans (hb2.mono hbwa.size)
    have hz2 := hb2.size
    rw [hza] at hz2
    have HM12 := HM1a.below hb2 (by omega)
    have hfv2 := hfv.below hb2 (by omega)
    clear hr2' hr3 HC2 HM1 hba hfv hbwa HM1a
    by_cases h0b : checkErr cs2 syms2 = 0
    · obtain ⟨b2, rfl, hb2l, HM2⟩ := hok2 h0b
      rw [h0b]
      rw [hza] at hb2l
      have hb2z := HM2.lt
      have H0b := veil h0b
      have HM1 := veil HM12
      have HM2 := veil HM2
      have hfv2 := veil hfv2
      clear hok2 hbad2 h0b HM12 hb2
      obtain ⟨fw, hfw⟩ : ∃ fw, fw = outWords cs syms := ⟨_, rfl⟩
      obtain ⟨rw_, hrw⟩ : ∃ rw_, rw_ = outWords cs2 syms2 := ⟨_, rfl⟩
      have hpf1 : PF fw := by rw [hfw]; exact words_pf2 Hcs.out H0.out
      have hpf2 : PF rw_ := by rw [hrw]; exact words_pf2 Hcs2.out H0b.out
      rw [← hfw] at HM1
      rw [← hrw] at HM2
      have hb3 := below1 w2 (.cells #[.map (some b2)] 68)
      have hb4 := below1 (w2.alloc (.cells #[.map (some b2)] 68)) (.cells #[.slice none 0 0, .slice none 0 0, .int .i64 0] 73)
      have hb5 := below1 ((w2.alloc (.cells #[.map (some b2)] 68)).alloc (.cells #[.slice none 0 0, .slice none 0 0, .int .i64 0] 73)) (.cells #[.bool false] 4)
      obtain ⟨w5, hw5⟩ : ∃ w5, w5 = ((w2.alloc (.cells #[.map (some b2)] 68)).alloc (.cells #[.slice none 0 0, .slice none 0 0, .int .i64 0] 73)).alloc (.cells #[.bool false] 4) := ⟨_, rfl⟩
      have hz3 : (w2.alloc (.cells #[.map (some b2)] 68)).heap.size = w2.heap.size + 1 := by simp
      have hz4 : ((w2.alloc (.cells #[.map (some b2)] 68)).alloc (.cells #[.slice none 0 0, .slice none 0 0, .int .i64 0] 73)).heap.size = w2.heap.size + 2 := by simp
      have hr5 : Blk w5 w2.heap.size [.map (some b2)] 68 := by rw [hw5]; exact ((Blk.new w2 [.map (some b2)] 68).below hb4 (by omega)).below hb5 (by omega)
      have hg5 : Blk w5 (w2.heap.size + 1) [.slice none 0 0, .slice none 0 0, .int .i64 0] 73 := by
        have h9 := Blk.new (w2.alloc (.cells #[.map (some b2)] 68)) [.slice none 0 0, .slice none 0 0, .int .i64 0] 73
        rw [hz3] at h9
        rw [hw5]; exact h9.below hb5 (by omega)
      have hm5 : Blk w5 (w2.heap.size + 2) [.bool false] 4 := by
        have h9 := Blk.new ((w2.alloc (.cells #[.map (some b2)] 68)).alloc (.cells #[.slice none 0 0, .slice none 0 0, .int .i64 0] 73)) [.bool false] 4
        rw [hz4] at h9
        rw [hw5]; exact h9
      have hz5 : w5.heap.size = w2.heap.size + 3 := by rw [hw5]; simp
      have hb25 : Below w2.heap.size w2 w5 := by rw [hw5]; exact (hb3.trans (hb4.mono (by omega))).trans (hb5.mono (by omega))
      have hbw5 := hbw2.trans (hb25.mono hbw2.size)
      have hI : encI fw rw_ syms.length (symS fw) syms2.length (symS rw_) b1 b2 w1.heap.size w2.heap.size (w2.heap.size + 2) (w2.heap.size + 1) (w2.heap.size + 3) w5 (fun q => q = w2.heap.size + 2 ∨ wrF (w2.heap.size + 1) (.slice none 0 0) (.slice none 0 0) q) [] :=
        ⟨[], [], .slice none 0 0, .slice none 0 0, ⟨hg5, ((Owns.nil (by omega)).fresh 78 2).fresh 5 1, by omega, by intro x hx; simp at hx, by simp, by simp⟩, HM1.out.below hb25 (by omega), HM2.out.below hb25 hb2z, hfv2.out.below hb25 (by omega), hr5, by
          rw [show (!decide (AllW fw rw_ [])) = false by rw [decide_eq_true (show AllW fw rw_ [] from fun x hx => by simp at hx)]; rfl]; exact hm5, fun _ => by simp [segBits, fieldBits, unpack], by simp [fieldBits, unpack], rfl⟩
      have hTk := enc_taker fw rw_ syms.length (symS fw) syms2.length (symS rw_) b1 b2 w1.heap.size w2.heap.size (w2.heap.size + 2) (w2.heap.size + 1) (w2.heap.size + 3) w.heap.size hpf1 hpf2 (by omega) (by omega) (by omega) (by omega) (by omega) (by omega) (by omega)
      have HEa := veil (eachToken_any _ _ w.heap.size _ hTk _ L A3 c3 w5 hl hm (fun _ => (hs3.below hbw5 hG).up hG) (by omega) hI)
      have hEe : Hid (eL L ≠ 0 → E = eL L) := fun h => HE.out.trans (eEnc_blk H0.out H0b.out h)
      have hEo : Hid (eL L = 0 → E = if AllW fw rw_ (toksB 0 L) then 0 else 5) := fun h => by have := HE.out.trans (eEnc_end H0.out H0b.out h); rw [hfw, hrw]; exact this
      have hSo : Hid (∀ raw, E = 0 → Bytes raw → (∃ p, p < 8 ∧ unpack raw = segBits fw rw_ (toksB 0 L) ++ List.replicate p true) → SegOut cs syms cs2 syms2 L (stuffB raw)) := fun raw h0 h1 h2 => ⟨fun h => absurd (HE.out.symm.trans h0) h, fun _ => ⟨raw, rfl, h1, by rw [← hfw, ← hrw]; exact h2⟩⟩
      have Hhw : Hid (w.heap.size ≤ w2.heap.size) := hbw2.size
      have Hw5 := veil hw5
      have Hbw5 := veil hbw5
      have Hz5 := veil hz5
      clear hb3 hb4 hb5 hz3 hz4 hr5 hg5 hm5 hz5 hb25 hbw5 hI hTk hfw hrw hpf1 hpf2 HM1 HM2 hfv2 hs hs2 hs3 hw5
      go_upto_region 9 with fail
      rw [← Hw5.out]
      go_wp2_with fail
      refine HEa.out.mono ?_
      rintro e w6 ⟨rfl, F, acc, ⟨D, P, vd, vp, hW, _, _, _, _, hm6, hbits, hlen, rfl⟩, hOn, _, hacc⟩
      have hz6 := hOn.size
      have hbw6 : Below w.heap.size w w6 := Hbw5.out.trans (hOn.below (by have := Hz5.out; have := Hhw.out; omega) (fun q hq => by
        have := Hhw.out
        rcases hq with rfl | rfl | h | h
        · omega
        · omega
        · cases h
        · cases h))
      by_cases hE0 : eL L = 0
      · rw [hE0]
        have hac := hacc hE0
        subst hac
        have hE5 := hEo.out hE0
        have hlL : L.length ≤ 400 := (eL_zero hE0).1
        have htl0 := toksB_len L 0
        have htl : (toksB 0 L).length ≤ 25600 := by omega
        clear htl0
        have hDl : D.length ≤ 1000000 := by rw [List.length_append, unpack_length] at hlen; omega
        have cm := hm6.cell (i := 0) (v := .bool (!decide (AllW fw rw_ (toksB 0 L)))) rfl
        by_cases hAW : AllW fw rw_ (toksB 0 L)
        · rw [if_pos hAW] at hE5
          rw [decide_eq_true hAW] at cm
          have HBy := veil (bytes_any (w2.heap.size + 3) (w2.heap.size + 1) D P vd vp w6 hW hDl)
          have hb6 := hbits hAW
          have Hb6 := veil hb6
          have Hbw6 := veil hbw6
          have HE5 := veil hE5
          have hlen6 := hlen
          rw [hb6] at hlen6
          have Hlen6 := veil hlen6
          clear hOn hW hm6 hbits hlen hacc hE0 hAW hb6 hbw6 hE5 hlen6 hlL hDl
          go_wp2_with fail
          refine HBy.out.mono ?_
          rintro e w7 ⟨v7, raw, rfl, hO7, ⟨hby7, p, hp, hun⟩, hb7⟩
          have hz7 := hb7.size
          have hrl := congrArg List.length hun
          rw [Hb6.out, unpack_length, List.length_append, List.length_replicate] at hrl
          obtain ⟨A7, c7, hv7, hs7, _, _⟩ := hO7.seen (List.mem_cons_self ..)
          simp only [byteRow, intRow] at hv7 hs7
          subst hv7
          have hsl := stuffB_length_le raw
          have HSt := veil (stuff_any A7 c7 w7.heap.size raw w7 hs7 (Nat.le_refl _) (by have := Hlen6.out; omega))
          have hSO := hSo.out raw HE5.out hby7 ⟨p, hp, by rw [hun, Hb6.out]⟩
          have HSO := veil hSO
          have hbw7 := Hbw6.out.trans (hb7.mono (by have := Hhw.out; omega))
          have Hbw7 := veil hbw7
          clear hO7 hby7 hun hb7 hrl hs7 hsl hSO hbw7 HBy
          go_wp2_with fail
          refine HSt.out.mono ?_
          rintro e w8 ⟨v8, rfl, hO8, hb8⟩
          have hf8 := Hbw7.out.trans (hb8.mono Hbw7.out.size)
          have hO9 := hO8.down Hbw7.out.size
          clear hO8 hb8 HSt
          go_wp2_with fail
          go_ret2
          exact ⟨v8, stuffB raw, ret_two rfl (by rw [HE5.out]; rfl), hO9, HSO.out, hf8⟩
        · rw [if_neg hAW] at hE5
          rw [decide_eq_false hAW] at cm
          have hS := HSo.out (by rw [hE5]; decide)
          have HS := veil hS
          have HE5 := veil hE5
          clear hOn hW hm6 hbits hlen hacc hE0 hAW hE5 hS hlL hDl
          go_wp2_with fail
          go_ret2
          exact ⟨_, [], ret_two rfl (by rw [HE5.out]; rfl), (Owns.nil hbw6.size).fresh _ _, HS.out, hbw6⟩
      · have hE5 := hEe.out hE0
        have hS := HSo.out (by rw [hE5]; exact hE0)
        have hne : (eL L != 0) = true := by simpa using hE0
        have HS := veil hS
        have HE5 := veil hE5
        obtain ⟨er, her⟩ : ∃ er, er = eL L := ⟨_, rfl⟩
        rw [← her] at hne HE5 ⊢
        clear hOn hW hm6 hbits hlen hacc hE0 hE5 hS her
        go_wp2_with fail
        go_ret2
        exact ⟨_, [], ret_two rfl (by rw [HE5.out]; rfl), (Owns.nil hbw6.size).fresh _ _, HS.out, hbw6⟩
    · have hE1 := HE.out.trans (eEnc_two (L := L) H0.out h0b)
      have hS := HSo.out (by rw [hE1]; exact h0b)
      have HS := veil hS
      have HE1 := veil hE1
      have hne : (checkErr cs2 syms2 != 0) = true := by simpa using h0b
      obtain ⟨er, her⟩ : ∃ er, er = checkErr cs2 syms2 := ⟨_, rfl⟩
      have hbx := hbw2.trans ((below1 w2 (.cells #[.map none] 68)).mono hbw2.size)
      obtain rfl := hbad2 h0b
      rw [← her] at hne HE1 ⊢
      clear hE1 hS h0b her hok2
      go_wp2
      go_ret2
      exact ⟨_, [], ret_two rfl (by rw [HE1.out]; rfl), (Owns.nil hbx.size).fresh _ _, HS.out, hbx⟩
  · have hE1 := HE.out.trans (eEnc_one (cs2 := cs2) (syms2 := syms2) (L := L) h0)
    have hS := HSo.out (by rw [hE1]; exact h0)
    have HS := veil hS
    have HE1 := veil hE1
    have hne : (checkErr cs syms != 0) = true := by simpa using h0
    obtain ⟨er, her⟩ : ∃ er, er = checkErr cs syms := ⟨_, rfl⟩
    have hbx := hbw.trans ((below1 w1 (.cells #[.map none] 68)).mono hbw.size)
    obtain rfl := hbad1 h0
    rw [← her] at hne HE1 ⊢
    clear hE1 hS h0 her hok1
    go_wp2
    go_ret2
    exact ⟨_, [], ret_two rfl (by rw [HE1.out]; rfl), (Owns.nil hbx.size).fresh _ _, HS.out, hbx⟩
end Go.Proofs.Ytddkhkpdbjjboaa

/- bits.Read: its contract. -/
namespace Go.Proofs.Ytddkhkpdbjjboaa
open Go.RowKit
set_option linter.unusedVariables false
set_option linter.unusedSimpArgs false
set_option maxRecDepth 100000

theorem info_int : (Try.prog.info? 3).map (fun i => (i.zero, i.size, i.bytes)) = some (some (.int .i64 0), 1, 8) := by kernel_rfl
theorem run_make_ints (n : Nat) (h : n ≤ 1099511627776) (u : World) : (Instr.makeSlice 23 (.int .i64 0) (.int .i64 (n : Int))).run Try.prog u =
    .ok (.slice (some ⟨u.heap.size, 0, none⟩) 0 n) (u.alloc (.cells (madeCells #[.int .i64 0] n) 3)) := by
  obtain ⟨i0, hi, hz0, hz1, hz2⟩ := info_parts info_int
  have h := run_make (P := Try.prog) u 23 3 i0 (.int .i64 0) Try.underlying23 hi hz0 .i64 .i64 0 n (by omega) (by omega) (by rw [hz2]; omega) (by omega)
  simpa [hz1, Value.cells] using h

/-- What Read answers of widths, so many bits left. -/
def readE (n : Int) : Int → List Int → Int
  | _, [] => 0
  | at_, x :: ws => if okW x = true then (if n - at_ < x then 3 else readE n (at_ + x) ws) else 1
def readErr (bs ws : List Int) : Int := if 20000 < ws.length then 2 else readE (8 * bs.length) 0 ws
def readOut (bs ws : List Int) : List Int := if readErr bs ws = 0 then readB (unpack bs) ws else []
def readSum (bs ws : List Int) : Int := if readErr bs ws = 0 then sumW ws else 0

theorem sumW_snoc (ws : List Int) (x : Int) : sumW (ws ++ [x]) = sumW ws + x := by
  induction ws with
  | nil => simp [sumW]
  | cons y ws ih => simp only [sumW, List.cons_append, List.foldr_cons] at ih ⊢; omega
theorem sumW_nonneg (ws : List Int) (h : ∀ x ∈ ws, 0 ≤ x) : 0 ≤ sumW ws := by
  induction ws with
  | nil => simp [sumW]
  | cons y ws ih =>
    have h1 := h y (by simp)
    have h2 := ih fun x hx => h x (by simp [hx])
    simp only [sumW, List.foldr_cons] at h2 ⊢; omega
theorem readB_snoc (bits : List Bool) (ws : List Int) (x : Int) (h : ∀ y ∈ ws, 0 ≤ y) : readB bits (ws ++ [x]) = readB bits ws ++ [(valB ((bits.drop (sumW ws).toNat).take x.toNat) : Int)] := by
  induction ws generalizing bits with
  | nil => simp [readB, sumW]
  | cons y ws ih =>
    have h1 := h y (by simp)
    have h2 := sumW_nonneg ws fun z hz => h z (by simp [hz])
    rw [List.cons_append, readB, ih _ (fun z hz => h z (by simp [hz])), readB, List.cons_append]
    have e : (sumW (y :: ws)).toNat = y.toNat + (sumW ws).toNat := by
      simp only [sumW, List.foldr_cons] at h2 ⊢; omega
    rw [List.drop_drop, e]

structure RInv (w : World) (bs ws : List Int) (k : Nat) (v : Value) (at_ : Nat) (wr : World) : Prop where
  sum : sumW (ws.take k) = at_
  at_le : at_ ≤ 8 * bs.length
  pos : ∀ x ∈ ws.take k, 0 ≤ x
  err : readE (8 * bs.length) 0 ws = readE (8 * bs.length) at_ (ws.drop k)
  own : wr.ownsRow w.heap.size 3 1 v (readB (unpack bs) (ws.take k)).length (ints .i64 (readB (unpack bs) (ws.take k)))
  bel : Below w.heap.size w wr

theorem readB_length (b : List Bool) (ws : List Int) : (readB b ws).length = ws.length := by
  induction ws generalizing b with
  | nil => rfl
  | cons y ws ih => simp [readB, ih]

theorem readOut_err {bs ws : List Int} (h : readErr bs ws ≠ 0) : readOut bs ws = [] := by unfold readOut; rw [if_neg h]
theorem readSum_err {bs ws : List Int} (h : readErr bs ws ≠ 0) : readSum bs ws = 0 := by unfold readSum; rw [if_neg h]
theorem readOut_ok {bs ws : List Int} (h : readErr bs ws = 0) : readOut bs ws = readB (unpack bs) ws := by unfold readOut; rw [if_pos h]
theorem readSum_ok {bs ws : List Int} (h : readErr bs ws = 0) : readSum bs ws = sumW ws := by unfold readSum; rw [if_pos h]
theorem drop_at {ws : List Int} {k : Nat} {x : Int} (h : ws[k]? = some x) : ws.drop k = x :: ws.drop (k + 1) := by
  obtain ⟨hk, rfl⟩ := List.getElem?_eq_some_iff.1 h
  exact List.drop_eq_getElem_cons hk
section
variable {w wr : World} {bs ws : List Int} {k at_ : Nat} {v : Value}
theorem RInv.stop_arg (h : RInv w bs ws k v at_ wr) {x : Int} (hx : ws[k]? = some x) (hok : okW x = false) (hbig : ¬ 20000 < ws.length) : readErr bs ws = 1 := by
  unfold readErr; rw [if_neg hbig, h.err, drop_at hx, readE, if_neg (by rw [hok]; decide)]
theorem RInv.stop_short (h : RInv w bs ws k v at_ wr) {x : Int} (hx : ws[k]? = some x) (hok : okW x = true) (hs : 8 * (bs.length : Int) - at_ < x) (hbig : ¬ 20000 < ws.length) : readErr bs ws = 3 := by
  unfold readErr; rw [if_neg hbig, h.err, drop_at hx, readE, if_pos hok, if_pos hs]
theorem RInv.done (h : RInv w bs ws ws.length v at_ wr) (hbig : ¬ 20000 < ws.length) : readErr bs ws = 0 := by
  unfold readErr; rw [if_neg hbig, h.err, List.drop_length]; rfl
theorem RInv.step (h : RInv w bs ws k v at_ wr) {X : Nat} (hx : ws[k]? = some (X : Int)) (hok : okW (X : Int) = true) (hs : ¬ 8 * (bs.length : Int) - at_ < X) {v' : Value} {w' : World}
    (hown : w'.ownsRow w.heap.size 3 1 v' (readB (unpack bs) (ws.take k) ++ [(valB (cutB bs at_ X) : Int)]).length (ints .i64 (readB (unpack bs) (ws.take k) ++ [(valB (cutB bs at_ X) : Int)]))) (hb : Below w.heap.size wr w') :
    RInv w bs ws (k + 1) v' (at_ + X) w' := by
  have ht := take_snoc hx
  refine ⟨?_, by omega, ?_, ?_, ?_, h.bel.trans hb⟩
  · rw [ht, sumW_snoc, h.sum]; simp
  · intro y hy
    rw [ht] at hy
    rcases List.mem_append.1 hy with hy | hy
    · exact h.pos y hy
    · simp at hy; omega
  · rw [h.err, drop_at hx, readE, if_pos hok, if_neg hs]; simp
  · rw [ht, readB_snoc _ _ _ h.pos, h.sum, Int.toNat_natCast, Int.toNat_natCast]
    exact hown
end

set_option maxHeartbeats 1000000 in
theorem read_any (A A2 : Option Addr) (c c2 G : Nat) (bs ws : List Int) (w : World) (hb : Seen w G A (ints .u8 bs)) (hby : Bytes bs) (hws : Seen w G A2 (ints .i64 ws)) (hG : G ≤ w.heap.size) (hl : bs.length ≤ 1152921504606846975) (hlw : ws.length ≤ maxLen) (hw64 : ∀ x ∈ ws, -9223372036854775808 ≤ x ∧ x ≤ 9223372036854775807) :
    Calls Try.prog 97 #[.slice A bs.length c, .slice A2 ws.length c2] w fun e w' => ∃ v, e = .returned (.tuple #[v, .int .i64 (readSum bs ws), .int .i64 (readErr bs ws)]) ∧ w'.ownsRow w.heap.size 3 1 v (readOut bs ws).length (ints .i64 (readOut bs ws)) ∧ Below w.heap.size w w' := by
  unfold maxLen at hlw
  by_cases hbig : 20000 < ws.length
  · have hbig' : (20000 : Int) < (ws.length : Int) := by omega
    have He : Hid (readErr bs ws = 2) := by show readErr bs ws = 2; unfold readErr; rw [if_pos hbig]
    have Ho : Hid (readOut bs ws = []) := by show readOut bs ws = []; unfold readOut; rw [He.out]; rfl
    have Hs : Hid (readSum bs ws = 0) := by show readSum bs ws = 0; unfold readSum; rw [He.out]; rfl
    go_enter Try.func97, Try.ntmps97
    go_wp2
    go_ret3
    exact ⟨_, ret_three rfl (by rw [Hs.out]; rfl) (by rw [He.out]; rfl), by rw [Ho.out]; exact World.ownsRow_nil _ _ _ _, Below.refl _ _⟩
  · have hbig' : ¬ (20000 : Int) < (ws.length : Int) := by omega
    have hmk := run_make_ints ws.length (by omega)
    go_enter Try.func97, Try.ntmps97
    go_wp2_with fail
    clear hmk
    go_loopg [7, 8, 10, 19] ws.length (fun gk v av x i wr => ∃ (k at_ : Nat), gk = ws.length - k ∧ k ≤ ws.length ∧ i = .int .i64 k ∧ av = .int .i64 at_ ∧ RInv w bs ws k v at_ wr)
    case atStart =>
      refine ⟨0, 0, rfl, Nat.zero_le _, rfl, rfl, rfl, by omega, by simp, rfl, ?_, below1 _ _⟩
      exact World.ownsRow_made _ _ _ (Nat.le_refl _) (by unfold maxLen; omega) (by rw [size_madeCells, Nat.mul_one])
    case round =>
      obtain ⟨k, at_, rfl, hk, rfl, rfl, hI⟩ := hrel
      have hat := hI.at_le
      by_cases hlt : k < ws.length
      · obtain ⟨g, o, x, rfl, hg, hx, h1⟩ := hws.int hlt
        have hx64 := hw64 x (List.mem_of_getElem? hx)
        have Hx := veil hx; clear hx
        rw [← hI.bel.cell (by simp; omega)] at h1
        by_cases hok : okW x = true
        · by_cases hsh : 8 * (bs.length : Int) - at_ < x
          · have He := hI.stop_short Hx.out hok hsh hbig
            have Ho := readOut_err (by rw [He]; decide)
            have Hs := readSum_err (by rw [He]; decide)
            have He := veil He; have Ho := veil Ho; have Hs := veil Hs
            go_wp2_with (go_at_call 106; refine (isWidth_any _ _).mono ?_; rintro e w1 ⟨rfl, rfl⟩)
            go_ret3
            exact ⟨_, ret_three rfl (by rw [Hs.out]; rfl) (by rw [He.out]; rfl), by rw [Ho.out]; exact World.ownsRow_nil _ _ _ _, hI.bel⟩
          · obtain ⟨X, hX, rfl⟩ : ∃ X : Nat, X ≤ 24 ∧ x = X := by
              simp [okW] at hok
              exact ⟨x.toNat, by omega, by omega⟩
            have hL : (readB (unpack bs) (ws.take k)).length ≤ 20000 := by rw [readB_length]; simp; omega
            have hB := hI.bel.size
            go_wp2_with (first
              | (go_at_call 106; refine (isWidth_any _ _).mono ?_; rintro e w1 ⟨rfl, rfl⟩)
              | (go_at_call 110; refine (number_any A c G bs at_ X _ (hb.below hI.bel (by omega)) hby (by omega) hX hl).mono ?_; rintro e w1 ⟨rfl, rfl⟩)
              | (at_builtin; go_loud (refine wpList_app1 _ rfl (.tmp 33) (.tmp 38) _ rfl w.heap.size 3 .i64 8 Try.underlying23 info_int _ (readB (unpack bs) (ws.take k)) _ rfl hI.own rfl (by omega) (by omega) (by omega) ?_); intro v' w' hown' hbel' hsz'))
            go_roundg (ws.length - (k + 1))
            case rel => exact ⟨k + 1, at_ + X, rfl, by omega, by go_num, by go_num, hI.step Hx.out hok (by omega) hown' hbel'⟩
            case measure => omega
        · have hok' : okW x = false := by simpa using hok
          have He := hI.stop_arg Hx.out hok' hbig
          have Ho := readOut_err (by rw [He]; decide)
          have Hs := readSum_err (by rw [He]; decide)
          have He := veil He; have Ho := veil Ho; have Hs := veil Hs
          clear hok
          go_wp2_with (go_at_call 106; refine (isWidth_any _ _).mono ?_; rintro e w1 ⟨rfl, rfl⟩)
          go_ret3
          exact ⟨_, ret_three rfl (by rw [Hs.out]; rfl) (by rw [He.out]; rfl), by rw [Ho.out]; exact World.ownsRow_nil _ _ _ _, hI.bel⟩
      · obtain rfl : k = ws.length := by omega
        have He := hI.done hbig
        have Ho := readOut_ok He
        have Hs := readSum_ok He
        have hw := hI.sum
        have hown := hI.own
        rw [List.take_length] at hw hown
        rw [← Ho] at hown
        rw [hw] at Hs
        have He := veil He; have Hs := veil Hs; clear Ho hw
        go_wp2
        go_ret3
        exact ⟨_, ret_three rfl (by rw [Hs.out]; rfl) (by rw [He.out]; rfl), hown, hI.bel⟩
end Go.Proofs.Ytddkhkpdbjjboaa
