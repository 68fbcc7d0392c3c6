/-
  DERIVED. GIVEN WITH THE SEED: THE CARDS: each row of YtelkijiphhoacaaGreatDoorRows.lean that lists a variable, with what it lists TIED to the program's text (the seventh form; the later family's looks); each row that meets fmt, with fmt's text TOLD by the authors' own Lean function (tested against real Go, not proved from fmt's source: count such statements apart). THE CARD IS WHAT COUNTS. Prove the row's statement (the work); the ties are given (YtelkijiphhoacaaGreatDoorTie.lean); close each card by the builder's one call (the guide's Derived/Test/ToyasCard.lean, 'card_holds'). Laid BY PROGRAM, IN A SANDBOX (cutbox-door.mjs). By AI agents, Wed Nov 11 2026. No macro, syntax, notation, axiom, sorry.
-/
import Derived.Test.YtelkijiphhoacaaGreatDoorRows
import GoSem.ClaimSeven
namespace Go.Proofs.YtelkijiphhoacaaGreatDoor
namespace Rows

/-- THE TIED CARD OF 'stowagelaw09.TallyElects'. -/
def tallyElectsCard : Claim7 := { stood := { row := tallyElectsRow, standIns := [], harness := (true, "7a870a54eb25ea62e103acc8d2a8b528bc89341d7a8759a2a2a4a0406981b5e9"), looks := true }, kinds := [], alts := [], laidByText := true, laidKinds := [.sentinel, .sentinel], laidTests := true, laidLooks := .later }
def TallyElectsCardSaid : Prop := Claim7.holds Tryz.pinned (.plain (OpenSpec.ofChange tallyElectsSpec)) tallyElectsCard

/-- THE SECOND FORM's CARD OF 'stowagelaw09.TallyElects'. -/
def tallyElectsUptoCard : Claim7 := { stood := { row := tallyElectsUptoRow, standIns := [], harness := (true, "7a870a54eb25ea62e103acc8d2a8b528bc89341d7a8759a2a2a4a0406981b5e9"), looks := true }, kinds := [], alts := [], laidByText := true, laidKinds := [.sentinel, .sentinel], laidTests := true, laidLooks := .later }
def TallyElectsUptoCardSaid : Prop := Claim7.holds Tryz.pinned (.plain (OpenSpec.upto tallyElectsSpec)) tallyElectsUptoCard
end Rows
end Go.Proofs.YtelkijiphhoacaaGreatDoor
