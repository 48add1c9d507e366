/-
  DERIVED. GIVEN WITH THE SEED: THE CARDS: each row of YtkcckhchlhmhhaaDoorRows.lean that lists a variable, with what it lists TIED to the program's text (the seventh form; the later family's looks); each row that meets fmt, with fmt's text TOLD by the authors' own Lean function (tested against real Go, not proved from fmt's source: count such statements apart). THE CARD IS WHAT COUNTS. Prove the row's statement (the work); the ties are given (YtkcckhchlhmhhaaDoorTie.lean); close each card by the builder's one call (the guide's Derived/Test/ToyasCard.lean, 'card_holds'). Laid BY PROGRAM, IN A SANDBOX (cutbox-door.mjs). By AI agents, Wed Nov 11 2026. No macro, syntax, notation, axiom, sorry.
-/
import Derived.Test.YtkcckhchlhmhhaaDoorRows
import GoSem.ClaimSeven
namespace Go.Proofs.YtkcckhchlhmhhaaDoor
namespace Rows

/-- THE TIED CARD OF 'plinthlaw01.ReaderReads'. -/
def readerReadsCard : Claim7 := { stood := { row := readerReadsRow, standIns := [], harness := (true, "3debea4dd50f7c7aadf135eeadddac9e1d2b12cb43980a3c5a4b4576d6458ef9"), looks := true }, kinds := [], alts := [], laidByText := true, laidKinds := [.data, .data, .data, .sentinel, .sentinel], laidTests := true, laidLooks := .later }
def ReaderReadsCardSaid : Prop := Claim7.holds Tryd.pinned (.plain (OpenSpec.ofChange readerReadsSpec)) readerReadsCard

/-- THE TIED CARD OF 'plinthlaw01.ReaderWrites'. -/
def readerWritesCard : Claim7 := { stood := { row := readerWritesRow, standIns := [], harness := (true, "3debea4dd50f7c7aadf135eeadddac9e1d2b12cb43980a3c5a4b4576d6458ef9"), looks := true }, kinds := [], alts := [], laidByText := true, laidKinds := [.data, .data, .data, .sentinel, .sentinel], laidTests := true, laidLooks := .later }
def ReaderWritesCardSaid : Prop := Claim7.holds Tryd.pinned (.plain (OpenSpec.ofChange readerWritesSpec)) readerWritesCard

/-- THE TIED CARD OF 'plinthlaw01.ReaderOrder'. -/
def readerOrderCard : Claim7 := { stood := { row := readerOrderRow, standIns := [], harness := (true, "3debea4dd50f7c7aadf135eeadddac9e1d2b12cb43980a3c5a4b4576d6458ef9"), looks := true }, kinds := [], alts := [], laidByText := true, laidKinds := [.data, .data, .data, .sentinel, .sentinel], laidTests := true, laidLooks := .later }
def ReaderOrderCardSaid : Prop := Claim7.holds Tryd.pinned (.plain (OpenSpec.ofChange readerOrderSpec)) readerOrderCard

/-- THE TIED CARD OF 'plinthlaw01.ReaderParts'. -/
def readerPartsCard : Claim7 := { stood := { row := readerPartsRow, standIns := [], harness := (true, "3debea4dd50f7c7aadf135eeadddac9e1d2b12cb43980a3c5a4b4576d6458ef9"), looks := true }, kinds := [], alts := [], laidByText := true, laidKinds := [.data, .data, .data, .sentinel, .sentinel], laidTests := true, laidLooks := .later }
def ReaderPartsCardSaid : Prop := Claim7.holds Tryd.pinned (.plain (OpenSpec.ofChange readerPartsSpec)) readerPartsCard

/-- THE TIED CARD OF 'plinthlaw01.ReaderBack'. -/
def readerBackCard : Claim7 := { stood := { row := readerBackRow, standIns := [], harness := (true, "3debea4dd50f7c7aadf135eeadddac9e1d2b12cb43980a3c5a4b4576d6458ef9"), looks := true }, kinds := [], alts := [], laidByText := true, laidKinds := [.data, .data, .data, .sentinel, .sentinel], laidTests := true, laidLooks := .later }
def ReaderBackCardSaid : Prop := Claim7.holds Tryd.pinned (.plain (OpenSpec.ofChange readerBackSpec)) readerBackCard

/-- THE TIED CARD OF 'plinthlaw01.ReaderWhole'. -/
def readerWholeCard : Claim7 := { stood := { row := readerWholeRow, standIns := [], harness := (true, "3debea4dd50f7c7aadf135eeadddac9e1d2b12cb43980a3c5a4b4576d6458ef9"), looks := true }, kinds := [], alts := [], laidByText := true, laidKinds := [.data, .data, .data, .sentinel, .sentinel], laidTests := true, laidLooks := .later }
def ReaderWholeCardSaid : Prop := Claim7.holds Tryd.pinned (.plain (OpenSpec.ofChange readerWholeSpec)) readerWholeCard

/-- THE SECOND FORM's CARD OF 'plinthlaw01.ReaderReads'. -/
def readerReadsUptoCard : Claim7 := { stood := { row := readerReadsUptoRow, standIns := [], harness := (true, "3debea4dd50f7c7aadf135eeadddac9e1d2b12cb43980a3c5a4b4576d6458ef9"), looks := true }, kinds := [], alts := [], laidByText := true, laidKinds := [.data, .data, .data, .sentinel, .sentinel], laidTests := true, laidLooks := .later }
def ReaderReadsUptoCardSaid : Prop := Claim7.holds Tryd.pinned (.plain (OpenSpec.upto readerReadsSpec)) readerReadsUptoCard

/-- THE SECOND FORM's CARD OF 'plinthlaw01.ReaderWrites'. -/
def readerWritesUptoCard : Claim7 := { stood := { row := readerWritesUptoRow, standIns := [], harness := (true, "3debea4dd50f7c7aadf135eeadddac9e1d2b12cb43980a3c5a4b4576d6458ef9"), looks := true }, kinds := [], alts := [], laidByText := true, laidKinds := [.data, .data, .data, .sentinel, .sentinel], laidTests := true, laidLooks := .later }
def ReaderWritesUptoCardSaid : Prop := Claim7.holds Tryd.pinned (.plain (OpenSpec.upto readerWritesSpec)) readerWritesUptoCard

/-- THE SECOND FORM's CARD OF 'plinthlaw01.ReaderOrder'. -/
def readerOrderUptoCard : Claim7 := { stood := { row := readerOrderUptoRow, standIns := [], harness := (true, "3debea4dd50f7c7aadf135eeadddac9e1d2b12cb43980a3c5a4b4576d6458ef9"), looks := true }, kinds := [], alts := [], laidByText := true, laidKinds := [.data, .data, .data, .sentinel, .sentinel], laidTests := true, laidLooks := .later }
def ReaderOrderUptoCardSaid : Prop := Claim7.holds Tryd.pinned (.plain (OpenSpec.upto readerOrderSpec)) readerOrderUptoCard

/-- THE SECOND FORM's CARD OF 'plinthlaw01.ReaderParts'. -/
def readerPartsUptoCard : Claim7 := { stood := { row := readerPartsUptoRow, standIns := [], harness := (true, "3debea4dd50f7c7aadf135eeadddac9e1d2b12cb43980a3c5a4b4576d6458ef9"), looks := true }, kinds := [], alts := [], laidByText := true, laidKinds := [.data, .data, .data, .sentinel, .sentinel], laidTests := true, laidLooks := .later }
def ReaderPartsUptoCardSaid : Prop := Claim7.holds Tryd.pinned (.plain (OpenSpec.upto readerPartsSpec)) readerPartsUptoCard

/-- THE SECOND FORM's CARD OF 'plinthlaw01.ReaderBack'. -/
def readerBackUptoCard : Claim7 := { stood := { row := readerBackUptoRow, standIns := [], harness := (true, "3debea4dd50f7c7aadf135eeadddac9e1d2b12cb43980a3c5a4b4576d6458ef9"), looks := true }, kinds := [], alts := [], laidByText := true, laidKinds := [.data, .data, .data, .sentinel, .sentinel], laidTests := true, laidLooks := .later }
def ReaderBackUptoCardSaid : Prop := Claim7.holds Tryd.pinned (.plain (OpenSpec.upto readerBackSpec)) readerBackUptoCard

/-- THE SECOND FORM's CARD OF 'plinthlaw01.ReaderWhole'. -/
def readerWholeUptoCard : Claim7 := { stood := { row := readerWholeUptoRow, standIns := [], harness := (true, "3debea4dd50f7c7aadf135eeadddac9e1d2b12cb43980a3c5a4b4576d6458ef9"), looks := true }, kinds := [], alts := [], laidByText := true, laidKinds := [.data, .data, .data, .sentinel, .sentinel], laidTests := true, laidLooks := .later }
def ReaderWholeUptoCardSaid : Prop := Claim7.holds Tryd.pinned (.plain (OpenSpec.upto readerWholeSpec)) readerWholeUptoCard
end Rows
end Go.Proofs.YtkcckhchlhmhhaaDoor
