/-
  DERIVED. GIVEN WITH THE SEED: THE CARDS: each row of YtkalknmindgljabDoorRows.lean that lists a variable, with what it lists TIED to the program's text (the seventh form; the later family's looks); each row that meets fmt, with fmt's text TOLD by the authors' own Lean function (tested against real Go, not proved from fmt's source: count such statements apart). THE CARD IS WHAT COUNTS. Prove the row's statement (the work); the ties are given (YtkalknmindgljabDoorTie.lean); close each card by the builder's one call (the guide's Derived/Test/ToyasCard.lean, 'card_holds'). Laid BY PROGRAM, IN A SANDBOX (cutbox-door.mjs). By AI agents, Wed Nov 11 2026. No macro, syntax, notation, axiom, sorry.
-/
import Derived.Test.YtkalknmindgljabDoorRows
import GoSem.ClaimSeven
namespace Go.Proofs.YtkalknmindgljabDoor
namespace Rows

/-- THE TIED CARD OF 'filigreelaw01.NaturalRing'. -/
def naturalRingCard : Claim7 := { stood := { row := naturalRingRow, standIns := [], harness := (true, "6265d24a502776631ea2236ae5d4e1143738d9ac7937aa037f8f0c058675b8e9"), looks := false }, kinds := [], alts := [], laidByText := true, laidKinds := [.data, .data, .data], laidTests := true, laidLooks := .later }
def NaturalRingCardSaid : Prop := Claim7.holds Tryd.pinned (.plain (OpenSpec.ofChange naturalRingSpec)) naturalRingCard

/-- THE TIED CARD OF 'filigreelaw01.NaturalDivides'. -/
def naturalDividesCard : Claim7 := { stood := { row := naturalDividesRow, standIns := [], harness := (true, "6265d24a502776631ea2236ae5d4e1143738d9ac7937aa037f8f0c058675b8e9"), looks := false }, kinds := [], alts := [], laidByText := true, laidKinds := [.data, .data, .data], laidTests := true, laidLooks := .later }
def NaturalDividesCardSaid : Prop := Claim7.holds Tryd.pinned (.plain (OpenSpec.ofChange naturalDividesSpec)) naturalDividesCard

/-- THE TIED CARD OF 'filigreelaw01.NaturalSquares'. -/
def naturalSquaresCard : Claim7 := { stood := { row := naturalSquaresRow, standIns := [], harness := (true, "6265d24a502776631ea2236ae5d4e1143738d9ac7937aa037f8f0c058675b8e9"), looks := false }, kinds := [], alts := [], laidByText := true, laidKinds := [.data, .data, .data], laidTests := true, laidLooks := .later }
def NaturalSquaresCardSaid : Prop := Claim7.holds Tryd.pinned (.plain (OpenSpec.ofChange naturalSquaresSpec)) naturalSquaresCard

/-- THE TIED CARD OF 'filigreelaw01.NaturalBack'. -/
def naturalBackCard : Claim7 := { stood := { row := naturalBackRow, standIns := [], harness := (true, "6265d24a502776631ea2236ae5d4e1143738d9ac7937aa037f8f0c058675b8e9"), looks := false }, kinds := [], alts := [], laidByText := true, laidKinds := [.data, .data, .data], laidTests := true, laidLooks := .later }
def NaturalBackCardSaid : Prop := Claim7.holds Tryd.pinned (.plain (OpenSpec.ofChange naturalBackSpec)) naturalBackCard

/-- THE TIED CARD OF 'filigreelaw01.NaturalBetween'. -/
def naturalBetweenCard : Claim7 := { stood := { row := naturalBetweenRow, standIns := [], harness := (true, "6265d24a502776631ea2236ae5d4e1143738d9ac7937aa037f8f0c058675b8e9"), looks := false }, kinds := [], alts := [], laidByText := true, laidKinds := [.data, .data, .data], laidTests := true, laidLooks := .later }
def NaturalBetweenCardSaid : Prop := Claim7.holds Tryd.pinned (.plain (OpenSpec.ofChange naturalBetweenSpec)) naturalBetweenCard

/-- THE SECOND FORM's CARD OF 'filigreelaw01.NaturalRing'. -/
def naturalRingUptoCard : Claim7 := { stood := { row := naturalRingUptoRow, standIns := [], harness := (true, "6265d24a502776631ea2236ae5d4e1143738d9ac7937aa037f8f0c058675b8e9"), looks := false }, kinds := [], alts := [], laidByText := true, laidKinds := [.data, .data, .data], laidTests := true, laidLooks := .later }
def NaturalRingUptoCardSaid : Prop := Claim7.holds Tryd.pinned (.plain (OpenSpec.upto naturalRingSpec)) naturalRingUptoCard

/-- THE SECOND FORM's CARD OF 'filigreelaw01.NaturalDivides'. -/
def naturalDividesUptoCard : Claim7 := { stood := { row := naturalDividesUptoRow, standIns := [], harness := (true, "6265d24a502776631ea2236ae5d4e1143738d9ac7937aa037f8f0c058675b8e9"), looks := false }, kinds := [], alts := [], laidByText := true, laidKinds := [.data, .data, .data], laidTests := true, laidLooks := .later }
def NaturalDividesUptoCardSaid : Prop := Claim7.holds Tryd.pinned (.plain (OpenSpec.upto naturalDividesSpec)) naturalDividesUptoCard

/-- THE SECOND FORM's CARD OF 'filigreelaw01.NaturalSquares'. -/
def naturalSquaresUptoCard : Claim7 := { stood := { row := naturalSquaresUptoRow, standIns := [], harness := (true, "6265d24a502776631ea2236ae5d4e1143738d9ac7937aa037f8f0c058675b8e9"), looks := false }, kinds := [], alts := [], laidByText := true, laidKinds := [.data, .data, .data], laidTests := true, laidLooks := .later }
def NaturalSquaresUptoCardSaid : Prop := Claim7.holds Tryd.pinned (.plain (OpenSpec.upto naturalSquaresSpec)) naturalSquaresUptoCard

/-- THE SECOND FORM's CARD OF 'filigreelaw01.NaturalBack'. -/
def naturalBackUptoCard : Claim7 := { stood := { row := naturalBackUptoRow, standIns := [], harness := (true, "6265d24a502776631ea2236ae5d4e1143738d9ac7937aa037f8f0c058675b8e9"), looks := false }, kinds := [], alts := [], laidByText := true, laidKinds := [.data, .data, .data], laidTests := true, laidLooks := .later }
def NaturalBackUptoCardSaid : Prop := Claim7.holds Tryd.pinned (.plain (OpenSpec.upto naturalBackSpec)) naturalBackUptoCard

/-- THE SECOND FORM's CARD OF 'filigreelaw01.NaturalBetween'. -/
def naturalBetweenUptoCard : Claim7 := { stood := { row := naturalBetweenUptoRow, standIns := [], harness := (true, "6265d24a502776631ea2236ae5d4e1143738d9ac7937aa037f8f0c058675b8e9"), looks := false }, kinds := [], alts := [], laidByText := true, laidKinds := [.data, .data, .data], laidTests := true, laidLooks := .later }
def NaturalBetweenUptoCardSaid : Prop := Claim7.holds Tryd.pinned (.plain (OpenSpec.upto naturalBetweenSpec)) naturalBetweenUptoCard
end Rows
end Go.Proofs.YtkalknmindgljabDoor
