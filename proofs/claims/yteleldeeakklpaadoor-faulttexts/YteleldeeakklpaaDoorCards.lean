/-
  DERIVED. GIVEN WITH THE SEED: THE CARDS: each row of YteleldeeakklpaaDoorRows.lean that lists a variable, with what it lists TIED to the program's text (the seventh form; the later family's looks); each row that meets fmt, with fmt's text TOLD by the authors' own Lean function (tested against real Go, not proved from fmt's source: count such statements apart). THE CARD IS WHAT COUNTS. Prove the row's statement (the work); the ties are given (YteleldeeakklpaaDoorTie.lean); close each card by the builder's one call (the guide's Derived/Test/ToyasCard.lean, 'card_holds'). Laid BY PROGRAM, IN A SANDBOX (cutbox-door.mjs). By AI agents, Wed Nov 11 2026. No macro, syntax, notation, axiom, sorry.
-/
import Derived.Test.YteleldeeakklpaaDoorRows
import GoSem.ClaimSeven
namespace Go.Proofs.YteleldeeakklpaaDoor
namespace Rows

/-- THE TIED CARD OF 'filigreelaw03.FaultTexts'. -/
def faultTextsCard : Claim7 := { stood := { row := faultTextsRow, standIns := [], harness := (true, "255c89a980e441fa3ca8c04ae497bc7a3e2d306770abebdd9322cbd8f0e9b01a"), looks := true }, kinds := [], alts := [], laidByText := true, laidKinds := [.data, .data, .data, .handle], laidTests := true, laidLooks := .later }
def FaultTextsCardSaid : Prop := Claim7.holds Tryd.pinned (.plain (OpenSpec.ofChange faultTextsSpec)) faultTextsCard

/-- THE TIED CARD OF 'filigreelaw03.FaultKinds'. -/
def faultKindsCard : Claim7 := { stood := { row := faultKindsRow, standIns := [], harness := (true, "255c89a980e441fa3ca8c04ae497bc7a3e2d306770abebdd9322cbd8f0e9b01a"), looks := true }, kinds := [], alts := [], laidByText := true, laidKinds := [.data, .data, .data, .handle], laidTests := true, laidLooks := .later }
def FaultKindsCardSaid : Prop := Claim7.holds Tryd.pinned (.plain (OpenSpec.ofChange faultKindsSpec)) faultKindsCard

/-- THE TIED CARD OF 'filigreelaw03.FaultTrails'. -/
def faultTrailsCard : Claim7 := { stood := { row := faultTrailsRow, standIns := [], harness := (true, "255c89a980e441fa3ca8c04ae497bc7a3e2d306770abebdd9322cbd8f0e9b01a"), looks := true }, kinds := [], alts := [], laidByText := true, laidKinds := [.data, .data, .data, .handle], laidTests := true, laidLooks := .later }
def FaultTrailsCardSaid : Prop := Claim7.holds Tryd.pinned (.plain (OpenSpec.ofChange faultTrailsSpec)) faultTrailsCard

/-- THE TIED CARD OF 'filigreelaw03.FaultNils'. -/
def faultNilsCard : Claim7 := { stood := { row := faultNilsRow, standIns := [], harness := (true, "255c89a980e441fa3ca8c04ae497bc7a3e2d306770abebdd9322cbd8f0e9b01a"), looks := true }, kinds := [], alts := [], laidByText := true, laidKinds := [.data, .data, .data, .handle], laidTests := true, laidLooks := .later }
def FaultNilsCardSaid : Prop := Claim7.holds Tryd.pinned (.plain (OpenSpec.ofChange faultNilsSpec)) faultNilsCard

/-- THE TIED CARD OF 'filigreelaw03.FaultAgain'. -/
def faultAgainCard : Claim7 := { stood := { row := faultAgainRow, standIns := [], harness := (true, "255c89a980e441fa3ca8c04ae497bc7a3e2d306770abebdd9322cbd8f0e9b01a"), looks := true }, kinds := [], alts := [], laidByText := true, laidKinds := [.data, .data, .data, .handle], laidTests := true, laidLooks := .later }
def FaultAgainCardSaid : Prop := Claim7.holds Tryd.pinned (.plain (OpenSpec.ofChange faultAgainSpec)) faultAgainCard

/-- THE SECOND FORM's CARD OF 'filigreelaw03.FaultTexts'. -/
def faultTextsUptoCard : Claim7 := { stood := { row := faultTextsUptoRow, standIns := [], harness := (true, "255c89a980e441fa3ca8c04ae497bc7a3e2d306770abebdd9322cbd8f0e9b01a"), looks := true }, kinds := [], alts := [], laidByText := true, laidKinds := [.data, .data, .data, .handle], laidTests := true, laidLooks := .later }
def FaultTextsUptoCardSaid : Prop := Claim7.holds Tryd.pinned (.plain (OpenSpec.upto faultTextsSpec)) faultTextsUptoCard

/-- THE SECOND FORM's CARD OF 'filigreelaw03.FaultKinds'. -/
def faultKindsUptoCard : Claim7 := { stood := { row := faultKindsUptoRow, standIns := [], harness := (true, "255c89a980e441fa3ca8c04ae497bc7a3e2d306770abebdd9322cbd8f0e9b01a"), looks := true }, kinds := [], alts := [], laidByText := true, laidKinds := [.data, .data, .data, .handle], laidTests := true, laidLooks := .later }
def FaultKindsUptoCardSaid : Prop := Claim7.holds Tryd.pinned (.plain (OpenSpec.upto faultKindsSpec)) faultKindsUptoCard

/-- THE SECOND FORM's CARD OF 'filigreelaw03.FaultTrails'. -/
def faultTrailsUptoCard : Claim7 := { stood := { row := faultTrailsUptoRow, standIns := [], harness := (true, "255c89a980e441fa3ca8c04ae497bc7a3e2d306770abebdd9322cbd8f0e9b01a"), looks := true }, kinds := [], alts := [], laidByText := true, laidKinds := [.data, .data, .data, .handle], laidTests := true, laidLooks := .later }
def FaultTrailsUptoCardSaid : Prop := Claim7.holds Tryd.pinned (.plain (OpenSpec.upto faultTrailsSpec)) faultTrailsUptoCard

/-- THE SECOND FORM's CARD OF 'filigreelaw03.FaultNils'. -/
def faultNilsUptoCard : Claim7 := { stood := { row := faultNilsUptoRow, standIns := [], harness := (true, "255c89a980e441fa3ca8c04ae497bc7a3e2d306770abebdd9322cbd8f0e9b01a"), looks := true }, kinds := [], alts := [], laidByText := true, laidKinds := [.data, .data, .data, .handle], laidTests := true, laidLooks := .later }
def FaultNilsUptoCardSaid : Prop := Claim7.holds Tryd.pinned (.plain (OpenSpec.upto faultNilsSpec)) faultNilsUptoCard

/-- THE SECOND FORM's CARD OF 'filigreelaw03.FaultAgain'. -/
def faultAgainUptoCard : Claim7 := { stood := { row := faultAgainUptoRow, standIns := [], harness := (true, "255c89a980e441fa3ca8c04ae497bc7a3e2d306770abebdd9322cbd8f0e9b01a"), looks := true }, kinds := [], alts := [], laidByText := true, laidKinds := [.data, .data, .data, .handle], laidTests := true, laidLooks := .later }
def FaultAgainUptoCardSaid : Prop := Claim7.holds Tryd.pinned (.plain (OpenSpec.upto faultAgainSpec)) faultAgainUptoCard
end Rows
end Go.Proofs.YteleldeeakklpaaDoor
