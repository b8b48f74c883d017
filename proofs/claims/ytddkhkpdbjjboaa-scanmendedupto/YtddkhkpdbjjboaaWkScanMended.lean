/- The law ScanMended, walked. -/
import Derived.Test.YtddkhkpdbjjboaaLawScanMended
import Derived.Test.YtddkhkpdbjjboaaBd18
namespace Go.Proofs.Ytddkhkpdbjjboaa
open Go.RowKit
set_option linter.unusedVariables false
set_option linter.unusedSimpArgs false
set_option maxRecDepth 100000

theorem scanMended_walk (cs : List Int) (A : Option Addr) (c : Nat) (syms : List Int) (cs2 : List Int) (A2 : Option Addr) (c2 : Nat) (syms2 : List Int) (A3 : Option Addr) (c3 : Nat) (bs : List Int) (n every : Int) (w : World)
    (hcs : cs.length = 16) (hb : ∀ x ∈ cs, -9223372036854775808 ≤ x ∧ x ≤ 9223372036854775807) (hs : Seen w w.heap.size A (ints .i64 syms)) (hn : syms.length ≤ maxLen) (hcap : syms.length ≤ c)
    (hcs2 : cs2.length = 16) (hb2 : ∀ x ∈ cs2, -9223372036854775808 ≤ x ∧ x ≤ 9223372036854775807) (hs2 : Seen w w.heap.size A2 (ints .i64 syms2)) (hn2 : syms2.length ≤ maxLen) (hcap2 : syms2.length ≤ c2)
    (hs3 : Seen w w.heap.size A3 (ints .u8 bs)) (hbw : ∀ x ∈ bs, (Lit.int .u8 x).wf = true) (hm : bs.length ≤ maxLen) (hcap3 : bs.length ≤ c3) (hcm : c3 ≤ maxLen) (hbl : bs.length ≤ 1048576) (hnb : -9223372036854775808 ≤ n ∧ n ≤ 9223372036854775807) (heb : -9223372036854775808 ≤ every ∧ every ≤ 9223372036854775807) :
    Calls Try.prog 4 #[tabsV cs A syms.length c cs2 A2 syms2.length c2, .slice A3 bs.length c3, .int .i64 n, .int .i64 every] w fun e w' => e = .returned (.bool true) ∧ Below w.heap.size w w' :=
  scanMended_by scanDecode_any scanMend_any cs A c syms cs2 A2 c2 syms2 A3 c3 bs n every w ⟨hcs, hn, hcap, hb, hs, hcs2, hn2, hcap2, hb2, hs2⟩ hs3 (fun x hx => bounds_u8 (hbw x hx)) hbl hcap3
end Go.Proofs.Ytddkhkpdbjjboaa
