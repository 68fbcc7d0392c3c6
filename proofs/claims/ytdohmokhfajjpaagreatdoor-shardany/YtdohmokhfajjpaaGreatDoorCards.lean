/-
  DERIVED. GIVEN WITH THE SEED: THE CARDS: each row of YtdohmokhfajjpaaGreatDoorRows.lean that lists a variable, with what it lists TIED to the program's text (the seventh form; the later family's looks); each row that meets fmt, with fmt's text TOLD by the authors' own Lean function (tested against real Go, not proved from fmt's source: count such statements apart). THE CARD IS WHAT COUNTS. Prove the row's statement (the work); the ties are given (YtdohmokhfajjpaaGreatDoorTie.lean); close each card by the builder's one call (the guide's Derived/Test/ToyasCard.lean, 'card_holds'). Laid BY PROGRAM, IN A SANDBOX (cutbox-door.mjs). By AI agents, Wed Nov 11 2026. No macro, syntax, notation, axiom, sorry.
-/
import Derived.Test.YtdohmokhfajjpaaGreatDoorRows
import GoSem.ClaimSeven
namespace Go.Proofs.YtdohmokhfajjpaaGreatDoor
namespace Rows

/-- THE TIED CARD OF 'stowagelaw11.ShardAny'. -/
def shardAnyCard : Claim7 := { stood := { row := shardAnyRow, standIns := [], harness := (true, "3a147367ff2581a835aa56b7595c67dd2b91153f0eb1e0be32e15ecf016d145f"), looks := true }, kinds := [], alts := [], laidByText := true, laidKinds := [.sentinel, .sentinel], laidTests := true, laidLooks := .later }
def ShardAnyCardSaid : Prop := Claim7.holds Tryz.pinned (.plain (OpenSpec.ofChange shardAnySpec)) shardAnyCard

/-- THE SECOND FORM's CARD OF 'stowagelaw11.ShardAny'. -/
def shardAnyUptoCard : Claim7 := { stood := { row := shardAnyUptoRow, standIns := [], harness := (true, "3a147367ff2581a835aa56b7595c67dd2b91153f0eb1e0be32e15ecf016d145f"), looks := true }, kinds := [], alts := [], laidByText := true, laidKinds := [.sentinel, .sentinel], laidTests := true, laidLooks := .later }
def ShardAnyUptoCardSaid : Prop := Claim7.holds Tryz.pinned (.plain (OpenSpec.upto shardAnySpec)) shardAnyUptoCard
end Rows
end Go.Proofs.YtdohmokhfajjpaaGreatDoor
