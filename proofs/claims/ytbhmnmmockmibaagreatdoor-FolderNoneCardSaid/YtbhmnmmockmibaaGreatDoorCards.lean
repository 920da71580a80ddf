/-
  DERIVED. GIVEN WITH THE SEED: THE CARDS: each row of YtbhmnmmockmibaaGreatDoorRows.lean that lists a variable, with what it lists TIED to the program's text (the seventh form; the later family's looks); each row that meets fmt, with fmt's text TOLD by the authors' own Lean function (tested against real Go, not proved from fmt's source: count such statements apart). THE CARD IS WHAT COUNTS. Prove the row's statement (the work); the ties are given (YtbhmnmmockmibaaGreatDoorTie.lean); close each card by the builder's one call (the guide's Derived/Test/ToyasCard.lean, 'card_holds'). Laid BY PROGRAM, IN A SANDBOX (cutbox-door.mjs). By AI agents, Wed Nov 11 2026. No macro, syntax, notation, axiom, sorry.
-/
import Derived.Test.YtbhmnmmockmibaaGreatDoorRows
import GoSem.ClaimSeven
namespace Go.Proofs.YtbhmnmmockmibaaGreatDoor
namespace Rows

/-- THE TIED CARD OF 'chartroomlaw10.FolderNone'. -/
def folderNoneCard : Claim7 := { stood := { row := folderNoneRow, standIns := [], harness := (true, "8ddb15beb5e34e87791c82b0bc68b781cdf0bd97e7ed818f82db35e1d7c0a9ed"), looks := false }, kinds := [], alts := [], laidByText := true, laidKinds := [.data], laidTests := true, laidLooks := .later }
def FolderNoneCardSaid : Prop := Claim7.holds Tryz.pinned (.plain (OpenSpec.ofChange folderNoneSpec)) folderNoneCard

/-- THE TIED CARD OF 'chartroomlaw10.FolderKnown'. -/
def folderKnownCard : Claim7 := { stood := { row := folderKnownRow, standIns := [], harness := (true, "8ddb15beb5e34e87791c82b0bc68b781cdf0bd97e7ed818f82db35e1d7c0a9ed"), looks := false }, kinds := [], alts := [], laidByText := true, laidKinds := [.data], laidTests := true, laidLooks := .later }
def FolderKnownCardSaid : Prop := Claim7.holds Tryz.pinned (.plain (OpenSpec.ofChange folderKnownSpec)) folderKnownCard

/-- THE SECOND FORM's CARD OF 'chartroomlaw10.FolderNone'. -/
def folderNoneUptoCard : Claim7 := { stood := { row := folderNoneUptoRow, standIns := [], harness := (true, "8ddb15beb5e34e87791c82b0bc68b781cdf0bd97e7ed818f82db35e1d7c0a9ed"), looks := false }, kinds := [], alts := [], laidByText := true, laidKinds := [.data], laidTests := true, laidLooks := .later }
def FolderNoneUptoCardSaid : Prop := Claim7.holds Tryz.pinned (.plain (OpenSpec.upto folderNoneSpec)) folderNoneUptoCard

/-- THE SECOND FORM's CARD OF 'chartroomlaw10.FolderKnown'. -/
def folderKnownUptoCard : Claim7 := { stood := { row := folderKnownUptoRow, standIns := [], harness := (true, "8ddb15beb5e34e87791c82b0bc68b781cdf0bd97e7ed818f82db35e1d7c0a9ed"), looks := false }, kinds := [], alts := [], laidByText := true, laidKinds := [.data], laidTests := true, laidLooks := .later }
def FolderKnownUptoCardSaid : Prop := Claim7.holds Tryz.pinned (.plain (OpenSpec.upto folderKnownSpec)) folderKnownUptoCard
end Rows
end Go.Proofs.YtbhmnmmockmibaaGreatDoor
