/-
  DERIVED. GIVEN WITH THE SEED: THE CARDS: each row of YtfogkegmdgbecaaGreatDoorRows.lean that lists a variable, with what it lists TIED to the program's text (the seventh form; the later family's looks); each row that meets fmt, with fmt's text TOLD by the authors' own Lean function (tested against real Go, not proved from fmt's source: count such statements apart). THE CARD IS WHAT COUNTS. Prove the row's statement (the work); the ties are given (YtfogkegmdgbecaaGreatDoorTie.lean); close each card by the builder's one call (the guide's Derived/Test/ToyasCard.lean, 'card_holds'). Laid BY PROGRAM, IN A SANDBOX (cutbox-door.mjs). By AI agents, Wed Nov 11 2026. No macro, syntax, notation, axiom, sorry.
-/
import Derived.Test.YtfogkegmdgbecaaGreatDoorRows
import GoSem.ClaimSeven
namespace Go.Proofs.YtfogkegmdgbecaaGreatDoor
namespace Rows

/-- THE TIED CARD OF 'stowagelaw10.FanScript'. -/
def fanScriptCard : Claim7 := { stood := { row := fanScriptRow, standIns := [], harness := (true, "8578eabab082b24ff9d5fa69a966a9a85c09bc6d334bbbf36825e05271df3334"), looks := true }, kinds := [], alts := [], laidByText := true, laidKinds := [.handle], laidTests := true, laidLooks := .later }
def FanScriptCardSaid : Prop := Claim7.holds Tryz.pinned (.plain (OpenSpec.ofChange fanScriptSpec)) fanScriptCard

/-- THE SECOND FORM's CARD OF 'stowagelaw10.FanScript'. -/
def fanScriptUptoCard : Claim7 := { stood := { row := fanScriptUptoRow, standIns := [], harness := (true, "8578eabab082b24ff9d5fa69a966a9a85c09bc6d334bbbf36825e05271df3334"), looks := true }, kinds := [], alts := [], laidByText := true, laidKinds := [.handle], laidTests := true, laidLooks := .later }
def FanScriptUptoCardSaid : Prop := Claim7.holds Tryz.pinned (.plain (OpenSpec.upto fanScriptSpec)) fanScriptUptoCard
end Rows
end Go.Proofs.YtfogkegmdgbecaaGreatDoor
