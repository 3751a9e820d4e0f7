/-
  DERIVED. GIVEN WITH THE SEED: THE CARDS: each row of YtkkjchfhgjfclaaGreatDoorRows.lean that lists a variable, with what it lists TIED to the program's text (the seventh form; the later family's looks); each row that meets fmt, with fmt's text TOLD by the authors' own Lean function (tested against real Go, not proved from fmt's source: count such statements apart). THE CARD IS WHAT COUNTS. Prove the row's statement (the work); the ties are given (YtkkjchfhgjfclaaGreatDoorTie.lean); close each card by the builder's one call (the guide's Derived/Test/ToyasCard.lean, 'card_holds'). Laid BY PROGRAM, IN A SANDBOX (cutbox-door.mjs). By AI agents, Wed Nov 11 2026. No macro, syntax, notation, axiom, sorry.
-/
import Derived.Test.YtkkjchfhgjfclaaGreatDoorRows
import GoSem.ClaimSeven
namespace Go.Proofs.YtkkjchfhgjfclaaGreatDoor
namespace Rows

/-- THE TIED CARD OF 'halyardlaw.QueryAlone'. -/
def queryAloneCard : Claim7 := { stood := { row := queryAloneRow, standIns := [], harness := (true, "4f4c0dcf11c6e2f69f92b74bf317508ed3b78ccc63201fe99fb3ab4fb4539ac7"), looks := true }, kinds := [], alts := [], laidByText := true, laidKinds := [.data, .data, .data, .sentinel, .sentinel], laidTests := true, laidLooks := .later }
def QueryAloneCardSaid : Prop := Claim7.holds Tryz.pinned (.plain (OpenSpec.ofChange queryAloneSpec)) queryAloneCard

/-- THE TIED CARD OF 'halyardlaw.QueryTells'. -/
def queryTellsCard : Claim7 := { stood := { row := queryTellsRow, standIns := [], harness := (true, "4f4c0dcf11c6e2f69f92b74bf317508ed3b78ccc63201fe99fb3ab4fb4539ac7"), looks := true }, kinds := [], alts := [], laidByText := true, laidKinds := [.data, .data, .data, .sentinel, .sentinel], laidTests := true, laidLooks := .later }
def QueryTellsCardSaid : Prop := Claim7.holds Tryz.pinned (.plain (OpenSpec.ofChange queryTellsSpec)) queryTellsCard

/-- THE SECOND FORM's CARD OF 'halyardlaw.QueryAlone'. -/
def queryAloneUptoCard : Claim7 := { stood := { row := queryAloneUptoRow, standIns := [], harness := (true, "4f4c0dcf11c6e2f69f92b74bf317508ed3b78ccc63201fe99fb3ab4fb4539ac7"), looks := true }, kinds := [], alts := [], laidByText := true, laidKinds := [.data, .data, .data, .sentinel, .sentinel], laidTests := true, laidLooks := .later }
def QueryAloneUptoCardSaid : Prop := Claim7.holds Tryz.pinned (.plain (OpenSpec.upto queryAloneSpec)) queryAloneUptoCard

/-- THE SECOND FORM's CARD OF 'halyardlaw.QueryTells'. -/
def queryTellsUptoCard : Claim7 := { stood := { row := queryTellsUptoRow, standIns := [], harness := (true, "4f4c0dcf11c6e2f69f92b74bf317508ed3b78ccc63201fe99fb3ab4fb4539ac7"), looks := true }, kinds := [], alts := [], laidByText := true, laidKinds := [.data, .data, .data, .sentinel, .sentinel], laidTests := true, laidLooks := .later }
def QueryTellsUptoCardSaid : Prop := Claim7.holds Tryz.pinned (.plain (OpenSpec.upto queryTellsSpec)) queryTellsUptoCard
end Rows
end Go.Proofs.YtkkjchfhgjfclaaGreatDoor
