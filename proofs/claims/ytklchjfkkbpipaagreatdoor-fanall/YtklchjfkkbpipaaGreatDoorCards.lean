/-
  DERIVED. GIVEN WITH THE SEED: THE CARDS: each row of YtklchjfkkbpipaaGreatDoorRows.lean that lists a variable, with what it lists TIED to the program's text (the seventh form; the later family's looks); each row that meets fmt, with fmt's text TOLD by the authors' own Lean function (tested against real Go, not proved from fmt's source: count such statements apart). THE CARD IS WHAT COUNTS. Prove the row's statement (the work); the ties are given (YtklchjfkkbpipaaGreatDoorTie.lean); close each card by the builder's one call (the guide's Derived/Test/ToyasCard.lean, 'card_holds'). Laid BY PROGRAM, IN A SANDBOX (cutbox-door.mjs). By AI agents, Wed Nov 11 2026. No macro, syntax, notation, axiom, sorry.
-/
import Derived.Test.YtklchjfkkbpipaaGreatDoorRows
import GoSem.ClaimSeven
namespace Go.Proofs.YtklchjfkkbpipaaGreatDoor
namespace Rows

/-- THE TIED CARD OF 'stowagelaw10.FanScript'. -/
def fanScriptCard : Claim7 := { stood := { row := fanScriptRow, standIns := [], harness := (true, "b322654e26df9cfb281de94624378f7c913fcffdf8e845752947a48a16f2fada"), looks := true }, kinds := [], alts := [], laidByText := true, laidKinds := [.handle], laidTests := true, laidLooks := .later }
def FanScriptCardSaid : Prop := Claim7.holds Tryz.pinned (.plain (OpenSpec.ofChange fanScriptSpec)) fanScriptCard

/-- THE TIED CARD OF 'stowagelaw10.FanNone'. -/
def fanNoneCard : Claim7 := { stood := { row := fanNoneRow, standIns := [], harness := (true, "b322654e26df9cfb281de94624378f7c913fcffdf8e845752947a48a16f2fada"), looks := true }, kinds := [], alts := [], laidByText := true, laidKinds := [.handle], laidTests := true, laidLooks := .later }
def FanNoneCardSaid : Prop := Claim7.holds Tryz.pinned (.plain (OpenSpec.ofChange fanNoneSpec)) fanNoneCard

/-- THE TIED CARD OF 'stowagelaw10.FanAll'. -/
def fanAllCard : Claim7 := { stood := { row := fanAllRow, standIns := [], harness := (true, "b322654e26df9cfb281de94624378f7c913fcffdf8e845752947a48a16f2fada"), looks := true }, kinds := [], alts := [], laidByText := true, laidKinds := [.handle], laidTests := true, laidLooks := .later }
def FanAllCardSaid : Prop := Claim7.holds Tryz.pinned (.plain (OpenSpec.ofChange fanAllSpec)) fanAllCard

/-- THE TIED CARD OF 'stowagelaw10.FanStops'. -/
def fanStopsCard : Claim7 := { stood := { row := fanStopsRow, standIns := [], harness := (true, "b322654e26df9cfb281de94624378f7c913fcffdf8e845752947a48a16f2fada"), looks := true }, kinds := [], alts := [], laidByText := true, laidKinds := [.handle], laidTests := true, laidLooks := .later }
def FanStopsCardSaid : Prop := Claim7.holds Tryz.pinned (.plain (OpenSpec.ofChange fanStopsSpec)) fanStopsCard

/-- THE TIED CARD OF 'stowagelaw10.FanKnown'. -/
def fanKnownCard : Claim7 := { stood := { row := fanKnownRow, standIns := [], harness := (true, "b322654e26df9cfb281de94624378f7c913fcffdf8e845752947a48a16f2fada"), looks := true }, kinds := [], alts := [], laidByText := true, laidKinds := [.handle], laidTests := true, laidLooks := .later }
def FanKnownCardSaid : Prop := Claim7.holds Tryz.pinned (.plain (OpenSpec.ofChange fanKnownSpec)) fanKnownCard

/-- THE SECOND FORM's CARD OF 'stowagelaw10.FanScript'. -/
def fanScriptUptoCard : Claim7 := { stood := { row := fanScriptUptoRow, standIns := [], harness := (true, "b322654e26df9cfb281de94624378f7c913fcffdf8e845752947a48a16f2fada"), looks := true }, kinds := [], alts := [], laidByText := true, laidKinds := [.handle], laidTests := true, laidLooks := .later }
def FanScriptUptoCardSaid : Prop := Claim7.holds Tryz.pinned (.plain (OpenSpec.upto fanScriptSpec)) fanScriptUptoCard

/-- THE SECOND FORM's CARD OF 'stowagelaw10.FanNone'. -/
def fanNoneUptoCard : Claim7 := { stood := { row := fanNoneUptoRow, standIns := [], harness := (true, "b322654e26df9cfb281de94624378f7c913fcffdf8e845752947a48a16f2fada"), looks := true }, kinds := [], alts := [], laidByText := true, laidKinds := [.handle], laidTests := true, laidLooks := .later }
def FanNoneUptoCardSaid : Prop := Claim7.holds Tryz.pinned (.plain (OpenSpec.upto fanNoneSpec)) fanNoneUptoCard

/-- THE SECOND FORM's CARD OF 'stowagelaw10.FanAll'. -/
def fanAllUptoCard : Claim7 := { stood := { row := fanAllUptoRow, standIns := [], harness := (true, "b322654e26df9cfb281de94624378f7c913fcffdf8e845752947a48a16f2fada"), looks := true }, kinds := [], alts := [], laidByText := true, laidKinds := [.handle], laidTests := true, laidLooks := .later }
def FanAllUptoCardSaid : Prop := Claim7.holds Tryz.pinned (.plain (OpenSpec.upto fanAllSpec)) fanAllUptoCard

/-- THE SECOND FORM's CARD OF 'stowagelaw10.FanStops'. -/
def fanStopsUptoCard : Claim7 := { stood := { row := fanStopsUptoRow, standIns := [], harness := (true, "b322654e26df9cfb281de94624378f7c913fcffdf8e845752947a48a16f2fada"), looks := true }, kinds := [], alts := [], laidByText := true, laidKinds := [.handle], laidTests := true, laidLooks := .later }
def FanStopsUptoCardSaid : Prop := Claim7.holds Tryz.pinned (.plain (OpenSpec.upto fanStopsSpec)) fanStopsUptoCard

/-- THE SECOND FORM's CARD OF 'stowagelaw10.FanKnown'. -/
def fanKnownUptoCard : Claim7 := { stood := { row := fanKnownUptoRow, standIns := [], harness := (true, "b322654e26df9cfb281de94624378f7c913fcffdf8e845752947a48a16f2fada"), looks := true }, kinds := [], alts := [], laidByText := true, laidKinds := [.handle], laidTests := true, laidLooks := .later }
def FanKnownUptoCardSaid : Prop := Claim7.holds Tryz.pinned (.plain (OpenSpec.upto fanKnownSpec)) fanKnownUptoCard
end Rows
end Go.Proofs.YtklchjfkkbpipaaGreatDoor
