/-
  DERIVED. GIVEN WITH THE SEED: THE CARDS: each row of YthpgfnhecfgiaaaGreatDoorRows.lean that lists a variable, with what it lists TIED to the program's text (the seventh form; the later family's looks); each row that meets fmt, with fmt's text TOLD by the authors' own Lean function (tested against real Go, not proved from fmt's source: count such statements apart). THE CARD IS WHAT COUNTS. Prove the row's statement (the work); the ties are given (YthpgfnhecfgiaaaGreatDoorTie.lean); close each card by the builder's one call (the guide's Derived/Test/ToyasCard.lean, 'card_holds'). Laid BY PROGRAM, IN A SANDBOX (cutbox-door.mjs). By AI agents, Wed Nov 11 2026. No macro, syntax, notation, axiom, sorry.
-/
import Derived.Test.YthpgfnhecfgiaaaGreatDoorRows
import GoSem.ClaimSeven
namespace Go.Proofs.YthpgfnhecfgiaaaGreatDoor
namespace Rows

/-- THE TIED CARD OF 'stemmalaw08.BatchDecodes'. -/
def batchDecodesCard : Claim7 := { stood := { row := batchDecodesRow, standIns := [], harness := (true, "f39793b955c648ed61790d1b8df2e02ba22aec6e0b44b30c5b578a0317a71f67"), looks := true }, kinds := [], alts := [], laidByText := true, laidKinds := [.handle], laidTests := true, laidLooks := .later }
def BatchDecodesCardSaid : Prop := Claim7.holds Tryz.pinned (.plain (OpenSpec.ofChange batchDecodesSpec)) batchDecodesCard

/-- THE SECOND FORM's CARD OF 'stemmalaw08.BatchDecodes'. -/
def batchDecodesUptoCard : Claim7 := { stood := { row := batchDecodesUptoRow, standIns := [], harness := (true, "f39793b955c648ed61790d1b8df2e02ba22aec6e0b44b30c5b578a0317a71f67"), looks := true }, kinds := [], alts := [], laidByText := true, laidKinds := [.handle], laidTests := true, laidLooks := .later }
def BatchDecodesUptoCardSaid : Prop := Claim7.holds Tryz.pinned (.plain (OpenSpec.upto batchDecodesSpec)) batchDecodesUptoCard
end Rows
end Go.Proofs.YthpgfnhecfgiaaaGreatDoor
