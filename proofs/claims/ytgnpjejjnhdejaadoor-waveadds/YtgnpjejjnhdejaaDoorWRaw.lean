/- wave.raw and the search for a number that is not admissible: their contracts. -/
import Derived.Test.YtgnpjejjnhdejaaDoorWBase
namespace Go.Proofs.YtgnpjejjnhdejaaDoor
open Go.RowKit
set_option linter.unusedVariables false
set_option linter.unusedSimpArgs false

theorem raw_any (n : Int) (w : World) :
    Calls Tryd.prog 27 #[.int .i64 n] w fun e w' => e = .returned (.bool (decide (-40000 ≤ n ∧ n ≤ 40000))) ∧ w' = w := by
  obtain ⟨R, hR⟩ : ∃ R, R = decide (-40000 ≤ n ∧ n ≤ 40000) := ⟨_, rfl⟩
  rw [← hR]
  have HR := veil hR; clear hR
  by_cases h1 : -40000 ≤ n
  · by_cases h2 : n ≤ 40000
    · have h3 : R = true := by rw [HR.out]; simp [h1, h2]
      subst h3; clear HR
      go_enter Tryd.func27, Tryd.ntmps27
      go_wp2
      go_ret
      exact ⟨rfl, rfl⟩
    · have h3 : R = false := by rw [HR.out]; simp; omega
      subst h3; clear HR
      go_enter Tryd.func27, Tryd.ntmps27
      go_wp2
      go_ret
      exact ⟨rfl, rfl⟩
  · have h3 : R = false := by rw [HR.out]; simp; omega
    subst h3; clear HR
    go_enter Tryd.func27, Tryd.ntmps27
    go_wp2
    go_ret
    exact ⟨rfl, rfl⟩
theorem notRaw_any (n : Int) (b : Nat) (w : World) (hc : w.cell? ⟨b, 0, none⟩ = some (.func (.func 27) #[] #[])) :
    Calls Tryd.prog 32 #[.int .i64 n, .pointer (some ⟨b, 0, none⟩)] w fun e w' => e = .returned (.bool (!decide (-40000 ≤ n ∧ n ≤ 40000))) ∧ w' = w := by
  have H := veil (raw_any n w)
  generalize decide (-40000 ≤ n ∧ n ≤ 40000) = R at *
  go_enter Tryd.func32, Tryd.ntmps32
  go_wp2_with fail
  refine H.out.mono ?_
  rintro e w1 ⟨rfl, rfl⟩
  go_wp2
  go_ret
  exact ⟨rfl, rfl⟩
set_option maxHeartbeats 1000000 in
theorem index_any (cs : List Int) (a b c : Nat) (w : World) (hl : cs.length = 64) (hB : Blk w a (ints .i64 cs) 28) (hc : w.cell? ⟨b, 0, none⟩ = some (.func (.func 27) #[] #[])) :
    Calls Tryd.prog 36 #[.slice (some ⟨a, 0, none⟩) 64 c, .func (.func 32) #[] #[.pointer (some ⟨b, 0, none⟩)]] w fun e w' => ∃ r : Int, e = .returned (.int .i64 r) ∧ (badB (-40000) 40000 cs = 0 ∧ r = -1 ∨ badB (-40000) 40000 cs = 1 ∧ 0 ≤ r) ∧ w' = w := by
  have H := veil (fun n => notRaw_any n b w hc)
  have HB := veil hB
  clear hB hc
  obtain ⟨Q0, hQ⟩ : ∃ Q0 : Int → Prop, Q0 = fun r => (badB (-40000) 40000 cs = 0 ∧ r = -1 ∨ badB (-40000) 40000 cs = 1 ∧ 0 ≤ r) := ⟨_, rfl⟩
  have HQ1 : Hid (∀ r : Int, badB (-40000) 40000 cs = 0 → r = -1 → Q0 r) := by rw [hQ]; exact fun r h1 h2 => .inl ⟨h1, h2⟩
  have HQ2 : Hid (∀ r : Int, badB (-40000) 40000 cs = 1 → 0 ≤ r → Q0 r) := by rw [hQ]; exact fun r h1 h2 => .inr ⟨h1, h2⟩
  show Calls _ _ _ _ fun e w' => ∃ r : Int, e = .returned (.int .i64 r) ∧ (fun r => (badB (-40000) 40000 cs = 0 ∧ r = -1 ∨ badB (-40000) 40000 cs = 1 ∧ 0 ≤ r)) r ∧ w' = w
  rw [← hQ]
  clear hQ
  go_enter Tryd.func36, Tryd.ntmps36
  go_wp2_with fail
  go_loopg [8] 64 (fun gk i wr => ∃ k : Nat, gk = 64 - k ∧ k ≤ 64 ∧ i = .int .i64 (k : Int) ∧ Hid (inB (-40000) 40000 (cs.take k) = true) ∧ wr = w)
  case atStart => exact ⟨0, rfl, by omega, rfl, by simp [inB, Hid], rfl⟩
  case round =>
    obtain ⟨k, rfl, hk, rfl, HI, rfl⟩ := hrel
    by_cases hlt : k < 64
    · have hltz : (k : Int) < 64 := by omega
      obtain ⟨x, hx⟩ := some_at (xs := cs) (j := k) (by omega)
      have hcx := HB.out.cell (ints_at hx)
      have HH := veil (H.out x)
      by_cases h1 : -40000 ≤ x ∧ x ≤ 40000
      · have HI2 := veil (inB_take hx HI.out h1.1 h1.2)
        have h3 : (!decide (-40000 ≤ x ∧ x ≤ 40000)) = false := by simp [h1]
        rw [h3] at HH
        clear HI hx h1 h3 HB H HQ1 HQ2
        go_wp2_with fail
        refine HH.out.mono ?_
        rintro e w1 ⟨rfl, rfl⟩
        go_wp2_with fail
        go_roundg (64 - (k + 1))
        case rel => exact ⟨k + 1, rfl, by omega, by go_num, HI2, rfl⟩
        case measure => omega
      · have HQ := HQ2.out (k : Int) (inB_not hx h1) (by omega)
        have h3 : (!decide (-40000 ≤ x ∧ x ≤ 40000)) = true := by simp [h1]
        rw [h3] at HH
        clear HI hx h1 h3 HB H HQ1 HQ2
        have HQ' := veil HQ; clear HQ
        go_wp2_with fail
        refine HH.out.mono ?_
        rintro e w1 ⟨rfl, rfl⟩
        go_wp2
        go_ret
        exact ⟨_, rfl, HQ'.out, rfl⟩
    · obtain rfl : k = 64 := by omega
      have HQ' := veil (HQ1.out (-1) (inB_all hl HI.out) rfl)
      clear HQ1 HQ2 HI H HB
      go_wp2
      go_ret
      exact ⟨_, rfl, HQ'.out, rfl⟩
theorem contains_any (cs : List Int) (a b c : Nat) (w : World) (hl : cs.length = 64) (hB : Blk w a (ints .i64 cs) 28) (hc : w.cell? ⟨b, 0, none⟩ = some (.func (.func 27) #[] #[])) :
    Calls Tryd.prog 31 #[.slice (some ⟨a, 0, none⟩) 64 c, .func (.func 32) #[] #[.pointer (some ⟨b, 0, none⟩)]] w fun e w' => e = .returned (.bool (decide (badB (-40000) 40000 cs = 1))) ∧ w' = w := by
  have H := veil (index_any cs a b c w hl hB hc)
  clear hB hc
  generalize badB (-40000) 40000 cs = E at *
  go_enter Tryd.func31, Tryd.ntmps31
  go_wp2_with fail
  refine H.out.mono ?_
  rintro e w1 ⟨r, rfl, hr, rfl⟩
  rcases hr with ⟨rfl, rfl⟩ | ⟨rfl, h⟩
  · go_wp2
    go_ret
    exact ⟨rfl, rfl⟩
  · go_wp2
    go_ret
    exact ⟨rfl, rfl⟩
end Go.Proofs.YtgnpjejjnhdejaaDoor
