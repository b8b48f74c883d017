/-
  DERIVED. GIVEN WITH THE SEED: THE CARDS: each row of YtgnpjejjnhdejaaDoorRows.lean that lists a variable, with what it lists TIED to the program's text (the seventh form; the later family's looks); each row that meets fmt, with fmt's text TOLD by the authors' own Lean function (tested against real Go, not proved from fmt's source: count such statements apart). THE CARD IS WHAT COUNTS. Prove the row's statement (the work); the ties are given (YtgnpjejjnhdejaaDoorTie.lean); close each card by the builder's one call (the guide's Derived/Test/ToyasCard.lean, 'card_holds'). Laid BY PROGRAM, IN A SANDBOX (cutbox-door.mjs). By AI agents, Wed Nov 11 2026. No macro, syntax, notation, axiom, sorry.
-/
import Derived.Test.YtgnpjejjnhdejaaDoorRows
import GoSem.ClaimSeven
namespace Go.Proofs.YtgnpjejjnhdejaaDoor
namespace Rows

/-- THE TIED CARD OF 'mezzotintlaw.WaveBasis'. -/
def waveBasisCard : Claim7 := { stood := { row := waveBasisRow, standIns := [], harness := (true, "5820d51445f11f9e7999933e767cd29f0af1bf1669ad96ef4c6e14bf9decaf86"), looks := false }, kinds := [], alts := [], laidByText := true, laidKinds := [.data], laidTests := true, laidLooks := .later }
def WaveBasisCardSaid : Prop := Claim7.holds Tryd.pinned (.plain (OpenSpec.ofChange waveBasisSpec)) waveBasisCard

/-- THE TIED CARD OF 'mezzotintlaw.WaveTo'. -/
def waveToCard : Claim7 := { stood := { row := waveToRow, standIns := [], harness := (true, "5820d51445f11f9e7999933e767cd29f0af1bf1669ad96ef4c6e14bf9decaf86"), looks := false }, kinds := [], alts := [], laidByText := true, laidKinds := [.data], laidTests := true, laidLooks := .later }
def WaveToCardSaid : Prop := Claim7.holds Tryd.pinned (.plain (OpenSpec.ofChange waveToSpec)) waveToCard

/-- THE TIED CARD OF 'mezzotintlaw.WaveFrom'. -/
def waveFromCard : Claim7 := { stood := { row := waveFromRow, standIns := [], harness := (true, "5820d51445f11f9e7999933e767cd29f0af1bf1669ad96ef4c6e14bf9decaf86"), looks := false }, kinds := [], alts := [], laidByText := true, laidKinds := [.data], laidTests := true, laidLooks := .later }
def WaveFromCardSaid : Prop := Claim7.holds Tryd.pinned (.plain (OpenSpec.ofChange waveFromSpec)) waveFromCard

/-- THE TIED CARD OF 'mezzotintkeep.WaveFlat'. -/
def waveFlatCard : Claim7 := { stood := { row := waveFlatRow, standIns := [], harness := (true, "5820d51445f11f9e7999933e767cd29f0af1bf1669ad96ef4c6e14bf9decaf86"), looks := false }, kinds := [], alts := [], laidByText := true, laidKinds := [.data], laidTests := true, laidLooks := .later }
def WaveFlatCardSaid : Prop := Claim7.holds Tryd.pinned (.plain (OpenSpec.ofChange waveFlatSpec)) waveFlatCard

/-- THE TIED CARD OF 'mezzotintkeep.WaveOdd'. -/
def waveOddCard : Claim7 := { stood := { row := waveOddRow, standIns := [], harness := (true, "5820d51445f11f9e7999933e767cd29f0af1bf1669ad96ef4c6e14bf9decaf86"), looks := false }, kinds := [], alts := [], laidByText := true, laidKinds := [.data], laidTests := true, laidLooks := .later }
def WaveOddCardSaid : Prop := Claim7.holds Tryd.pinned (.plain (OpenSpec.ofChange waveOddSpec)) waveOddCard

/-- THE TIED CARD OF 'mezzotintkeep.WaveAcross'. -/
def waveAcrossCard : Claim7 := { stood := { row := waveAcrossRow, standIns := [], harness := (true, "5820d51445f11f9e7999933e767cd29f0af1bf1669ad96ef4c6e14bf9decaf86"), looks := false }, kinds := [], alts := [], laidByText := true, laidKinds := [.data], laidTests := true, laidLooks := .later }
def WaveAcrossCardSaid : Prop := Claim7.holds Tryd.pinned (.plain (OpenSpec.ofChange waveAcrossSpec)) waveAcrossCard

/-- THE TIED CARD OF 'mezzotintkeep.WaveMirror'. -/
def waveMirrorCard : Claim7 := { stood := { row := waveMirrorRow, standIns := [], harness := (true, "5820d51445f11f9e7999933e767cd29f0af1bf1669ad96ef4c6e14bf9decaf86"), looks := false }, kinds := [], alts := [], laidByText := true, laidKinds := [.data], laidTests := true, laidLooks := .later }
def WaveMirrorCardSaid : Prop := Claim7.holds Tryd.pinned (.plain (OpenSpec.ofChange waveMirrorSpec)) waveMirrorCard

/-- THE TIED CARD OF 'mezzotintkeep.WaveApart'. -/
def waveApartCard : Claim7 := { stood := { row := waveApartRow, standIns := [], harness := (true, "5820d51445f11f9e7999933e767cd29f0af1bf1669ad96ef4c6e14bf9decaf86"), looks := false }, kinds := [], alts := [], laidByText := true, laidKinds := [.data], laidTests := true, laidLooks := .later }
def WaveApartCardSaid : Prop := Claim7.holds Tryd.pinned (.plain (OpenSpec.ofChange waveApartSpec)) waveApartCard

/-- THE TIED CARD OF 'mezzotintkeep.WaveNear'. -/
def waveNearCard : Claim7 := { stood := { row := waveNearRow, standIns := [], harness := (true, "5820d51445f11f9e7999933e767cd29f0af1bf1669ad96ef4c6e14bf9decaf86"), looks := false }, kinds := [], alts := [], laidByText := true, laidKinds := [.data], laidTests := true, laidLooks := .later }
def WaveNearCardSaid : Prop := Claim7.holds Tryd.pinned (.plain (OpenSpec.ofChange waveNearSpec)) waveNearCard

/-- THE TIED CARD OF 'mezzotintkeep.WaveAdds'. -/
def waveAddsCard : Claim7 := { stood := { row := waveAddsRow, standIns := [], harness := (true, "5820d51445f11f9e7999933e767cd29f0af1bf1669ad96ef4c6e14bf9decaf86"), looks := false }, kinds := [], alts := [], laidByText := true, laidKinds := [.data], laidTests := true, laidLooks := .later }
def WaveAddsCardSaid : Prop := Claim7.holds Tryd.pinned (.plain (OpenSpec.ofChange waveAddsSpec)) waveAddsCard

/-- THE TIED CARD OF 'mezzotintkeep.WaveLine'. -/
def waveLineCard : Claim7 := { stood := { row := waveLineRow, standIns := [], harness := (true, "5820d51445f11f9e7999933e767cd29f0af1bf1669ad96ef4c6e14bf9decaf86"), looks := false }, kinds := [], alts := [], laidByText := true, laidKinds := [.data], laidTests := true, laidLooks := .later }
def WaveLineCardSaid : Prop := Claim7.holds Tryd.pinned (.plain (OpenSpec.ofChange waveLineSpec)) waveLineCard

/-- THE TIED CARD OF 'mezzotintkeep.WaveSingle'. -/
def waveSingleCard : Claim7 := { stood := { row := waveSingleRow, standIns := [], harness := (true, "5820d51445f11f9e7999933e767cd29f0af1bf1669ad96ef4c6e14bf9decaf86"), looks := false }, kinds := [], alts := [], laidByText := true, laidKinds := [.data], laidTests := true, laidLooks := .later }
def WaveSingleCardSaid : Prop := Claim7.holds Tryd.pinned (.plain (OpenSpec.ofChange waveSingleSpec)) waveSingleCard

/-- THE SECOND FORM's CARD OF 'mezzotintlaw.WaveBasis'. -/
def waveBasisUptoCard : Claim7 := { stood := { row := waveBasisUptoRow, standIns := [], harness := (true, "5820d51445f11f9e7999933e767cd29f0af1bf1669ad96ef4c6e14bf9decaf86"), looks := false }, kinds := [], alts := [], laidByText := true, laidKinds := [.data], laidTests := true, laidLooks := .later }
def WaveBasisUptoCardSaid : Prop := Claim7.holds Tryd.pinned (.plain (OpenSpec.upto waveBasisSpec)) waveBasisUptoCard

/-- THE SECOND FORM's CARD OF 'mezzotintlaw.WaveTo'. -/
def waveToUptoCard : Claim7 := { stood := { row := waveToUptoRow, standIns := [], harness := (true, "5820d51445f11f9e7999933e767cd29f0af1bf1669ad96ef4c6e14bf9decaf86"), looks := false }, kinds := [], alts := [], laidByText := true, laidKinds := [.data], laidTests := true, laidLooks := .later }
def WaveToUptoCardSaid : Prop := Claim7.holds Tryd.pinned (.plain (OpenSpec.upto waveToSpec)) waveToUptoCard

/-- THE SECOND FORM's CARD OF 'mezzotintlaw.WaveFrom'. -/
def waveFromUptoCard : Claim7 := { stood := { row := waveFromUptoRow, standIns := [], harness := (true, "5820d51445f11f9e7999933e767cd29f0af1bf1669ad96ef4c6e14bf9decaf86"), looks := false }, kinds := [], alts := [], laidByText := true, laidKinds := [.data], laidTests := true, laidLooks := .later }
def WaveFromUptoCardSaid : Prop := Claim7.holds Tryd.pinned (.plain (OpenSpec.upto waveFromSpec)) waveFromUptoCard

/-- THE SECOND FORM's CARD OF 'mezzotintkeep.WaveFlat'. -/
def waveFlatUptoCard : Claim7 := { stood := { row := waveFlatUptoRow, standIns := [], harness := (true, "5820d51445f11f9e7999933e767cd29f0af1bf1669ad96ef4c6e14bf9decaf86"), looks := false }, kinds := [], alts := [], laidByText := true, laidKinds := [.data], laidTests := true, laidLooks := .later }
def WaveFlatUptoCardSaid : Prop := Claim7.holds Tryd.pinned (.plain (OpenSpec.upto waveFlatSpec)) waveFlatUptoCard

/-- THE SECOND FORM's CARD OF 'mezzotintkeep.WaveOdd'. -/
def waveOddUptoCard : Claim7 := { stood := { row := waveOddUptoRow, standIns := [], harness := (true, "5820d51445f11f9e7999933e767cd29f0af1bf1669ad96ef4c6e14bf9decaf86"), looks := false }, kinds := [], alts := [], laidByText := true, laidKinds := [.data], laidTests := true, laidLooks := .later }
def WaveOddUptoCardSaid : Prop := Claim7.holds Tryd.pinned (.plain (OpenSpec.upto waveOddSpec)) waveOddUptoCard

/-- THE SECOND FORM's CARD OF 'mezzotintkeep.WaveAcross'. -/
def waveAcrossUptoCard : Claim7 := { stood := { row := waveAcrossUptoRow, standIns := [], harness := (true, "5820d51445f11f9e7999933e767cd29f0af1bf1669ad96ef4c6e14bf9decaf86"), looks := false }, kinds := [], alts := [], laidByText := true, laidKinds := [.data], laidTests := true, laidLooks := .later }
def WaveAcrossUptoCardSaid : Prop := Claim7.holds Tryd.pinned (.plain (OpenSpec.upto waveAcrossSpec)) waveAcrossUptoCard

/-- THE SECOND FORM's CARD OF 'mezzotintkeep.WaveMirror'. -/
def waveMirrorUptoCard : Claim7 := { stood := { row := waveMirrorUptoRow, standIns := [], harness := (true, "5820d51445f11f9e7999933e767cd29f0af1bf1669ad96ef4c6e14bf9decaf86"), looks := false }, kinds := [], alts := [], laidByText := true, laidKinds := [.data], laidTests := true, laidLooks := .later }
def WaveMirrorUptoCardSaid : Prop := Claim7.holds Tryd.pinned (.plain (OpenSpec.upto waveMirrorSpec)) waveMirrorUptoCard

/-- THE SECOND FORM's CARD OF 'mezzotintkeep.WaveApart'. -/
def waveApartUptoCard : Claim7 := { stood := { row := waveApartUptoRow, standIns := [], harness := (true, "5820d51445f11f9e7999933e767cd29f0af1bf1669ad96ef4c6e14bf9decaf86"), looks := false }, kinds := [], alts := [], laidByText := true, laidKinds := [.data], laidTests := true, laidLooks := .later }
def WaveApartUptoCardSaid : Prop := Claim7.holds Tryd.pinned (.plain (OpenSpec.upto waveApartSpec)) waveApartUptoCard

/-- THE SECOND FORM's CARD OF 'mezzotintkeep.WaveNear'. -/
def waveNearUptoCard : Claim7 := { stood := { row := waveNearUptoRow, standIns := [], harness := (true, "5820d51445f11f9e7999933e767cd29f0af1bf1669ad96ef4c6e14bf9decaf86"), looks := false }, kinds := [], alts := [], laidByText := true, laidKinds := [.data], laidTests := true, laidLooks := .later }
def WaveNearUptoCardSaid : Prop := Claim7.holds Tryd.pinned (.plain (OpenSpec.upto waveNearSpec)) waveNearUptoCard

/-- THE SECOND FORM's CARD OF 'mezzotintkeep.WaveAdds'. -/
def waveAddsUptoCard : Claim7 := { stood := { row := waveAddsUptoRow, standIns := [], harness := (true, "5820d51445f11f9e7999933e767cd29f0af1bf1669ad96ef4c6e14bf9decaf86"), looks := false }, kinds := [], alts := [], laidByText := true, laidKinds := [.data], laidTests := true, laidLooks := .later }
def WaveAddsUptoCardSaid : Prop := Claim7.holds Tryd.pinned (.plain (OpenSpec.upto waveAddsSpec)) waveAddsUptoCard

/-- THE SECOND FORM's CARD OF 'mezzotintkeep.WaveLine'. -/
def waveLineUptoCard : Claim7 := { stood := { row := waveLineUptoRow, standIns := [], harness := (true, "5820d51445f11f9e7999933e767cd29f0af1bf1669ad96ef4c6e14bf9decaf86"), looks := false }, kinds := [], alts := [], laidByText := true, laidKinds := [.data], laidTests := true, laidLooks := .later }
def WaveLineUptoCardSaid : Prop := Claim7.holds Tryd.pinned (.plain (OpenSpec.upto waveLineSpec)) waveLineUptoCard

/-- THE SECOND FORM's CARD OF 'mezzotintkeep.WaveSingle'. -/
def waveSingleUptoCard : Claim7 := { stood := { row := waveSingleUptoRow, standIns := [], harness := (true, "5820d51445f11f9e7999933e767cd29f0af1bf1669ad96ef4c6e14bf9decaf86"), looks := false }, kinds := [], alts := [], laidByText := true, laidKinds := [.data], laidTests := true, laidLooks := .later }
def WaveSingleUptoCardSaid : Prop := Claim7.holds Tryd.pinned (.plain (OpenSpec.upto waveSingleSpec)) waveSingleUptoCard
end Rows
end Go.Proofs.YtgnpjejjnhdejaaDoor
