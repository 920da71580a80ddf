/-
  NARROWER THAN 'FOR EVERY INPUT', by the rows' own cells (each row's printed sentence says how): FolderNone: laid · FolderKnown: laid.
  DERIVED. THE GIVEN ROWS OF THIS SEAT. 2 by the template 'for every input the law returns true; each argument reads behind the call as it read before'; 0 by the template 'total and deterministic' (their statements: YtbhmnmmockmibaaGreatDoorTotals.lean).
  GIVEN WITH THE SEED: the statements are not yours to turn. If you find one false, say at which input.
  Laid BY PROGRAM, IN A SANDBOX (cutbox-rows.mjs): the forced cells as the released guide's own fill.sh prints them over the translation 5c02fd4902ead9d3… (all of the seat's roots in one cut). By AI agents, Wed Nov 11 2026. No macro, syntax, notation, axiom, sorry.
-/
import Derived.Test.YtbhmnmmockmibaaGreatDoorChecked
import GoSem.Claim
import GoSem.ClaimJoined
import GoSem.ClaimMapViews
import Derived.JoinedTies
import Derived.KernelRfl
namespace Go.Proofs.YtbhmnmmockmibaaGreatDoor
/- THE CELL 'sum', in the pinned program and in every row, IS THE sha256 OF THE DUMP (.gsa) THAT YtbhmnmmockmibaaGreatDoorProg.lean LOADS. Nothing in Lean hashes anything: it is a label: what it is worth is what the hold of that sum in a sandbox is worth. -/
noncomputable def Tryz.pinned : Pinned := { name := "ytbhmnmmockmibaagreatdoor", sum := "5c02fd4902ead9d3a2428fc5fc730e2e102c6b791ed4a7ed304d602e3bd9a31b", checked := Tryz.checked }
namespace Rows
def none {H : Type} : Left H := { results := [], args := [] }

/- WHAT THE LISTED PACKAGE-LEVEL VARIABLES READ AS WHEN THE CALL BEGINS. Each datum BY PROGRAM (the guide's laid-datum.mjs) off the statement by which the dump's own 'gosem.cut.vars' lays the variable. In a bare row this is a premise. The card (YtbhmnmmockmibaaGreatDoorCards.lean) ties it to the program's text. -/
def laid_chartroom_folder_words {H : Type} : DataW H := .agg [.lit (.string []), .lit (.string [99, 114, 101, 97, 116, 101]), .lit (.string [119, 114, 105, 116, 101]), .lit (.string [102, 115, 121, 110, 99]), .lit (.string [102, 115, 121, 110, 99, 100, 105, 114]), .lit (.string [108, 105, 110, 107]), .lit (.string [117, 110, 108, 105, 110, 107]), .lit (.string [114, 101, 97, 100, 100, 105, 114]), .lit (.string [114, 101, 97, 100])]

/-- 'chartroomlaw10.FolderNone': WHATEVER THE INPUT: true; the input reads as it did. -/
def folderNoneSpec : ChangeSpec := { name := "folderNone", fn := fun _ => fun
  | [d1, d2] => { results := [.lit (.bool true)], args := [d1, d2] }
  | _ => none }
def folderNoneRow : OpenClaim := { program := "ytbhmnmmockmibaagreatdoor", sum := "5c02fd4902ead9d3a2428fc5fc730e2e102c6b791ed4a7ed304d602e3bd9a31b", func := "chartroom/chartroomlaw10.FolderNone", spec := "folderNone", inPlace := ["internal/bytealg.abigen_runtime_cmpstring"], unfollowed := true, recurses := true, named := ["chartroom/folder.words"], apart := false, laid := [("chartroom/folder.words", laid_chartroom_folder_words)] }
def FolderNoneSaid : Prop := folderNoneRow.holds Tryz.pinned (OpenSpec.ofChange folderNoneSpec)

/-- ITS FALSE NEIGHBOUR: 'it returns false'. Refute it at one input. -/
def folderNoneWrong : ChangeSpec := { name := "folderNone", fn := fun _ => fun
  | [d1, d2] => { results := [.lit (.bool false)], args := [d1, d2] }
  | _ => none }
def FolderNoneWrongFalsely : Prop := folderNoneRow.holds Tryz.pinned (OpenSpec.ofChange folderNoneWrong)

/-- 'chartroomlaw10.FolderKnown': WHATEVER THE INPUT: true; the input reads as it did. -/
def folderKnownSpec : ChangeSpec := { name := "folderKnown", fn := fun _ => fun
  | [] => { results := [.lit (.bool true)], args := [] }
  | _ => none }
def folderKnownRow : OpenClaim := { program := "ytbhmnmmockmibaagreatdoor", sum := "5c02fd4902ead9d3a2428fc5fc730e2e102c6b791ed4a7ed304d602e3bd9a31b", func := "chartroom/chartroomlaw10.FolderKnown", spec := "folderKnown", inPlace := ["internal/bytealg.abigen_runtime_cmpstring"], unfollowed := true, recurses := true, named := ["chartroom/folder.words"], apart := false, laid := [("chartroom/folder.words", laid_chartroom_folder_words)] }
def FolderKnownSaid : Prop := folderKnownRow.holds Tryz.pinned (OpenSpec.ofChange folderKnownSpec)

/-- ITS FALSE NEIGHBOUR: 'it returns false'. Refute it at one input. -/
def folderKnownWrong : ChangeSpec := { name := "folderKnown", fn := fun _ => fun
  | [] => { results := [.lit (.bool false)], args := [] }
  | _ => none }
def FolderKnownWrongFalsely : Prop := folderKnownRow.holds Tryz.pinned (OpenSpec.ofChange folderKnownWrong)

/- THE SECOND FORM. 'bulk': how many values and letters a reading holds, each counted each time it is reached (what is shared counts as often as it is met; a slice's spare places count too). A statement '..UptoSaid' is the law's where the arguments, and the package variables that the reading takes, are together of bulk at most 1048576: NARROWER than '..Said'. Prove '..Said' where nothing that the law and all that it calls make is longer than what came in: it says more and counts as full. Else prove '..UptoSaid'. A law counts once. -/
mutual
def uptoBulk {H : Type} : DataW H → Nat
  | .lit (.string bytes) => bytes.length + 1
  | .lit _ => 1
  | .nil => 1
  | .ptr d => uptoBulk d + 1
  | .slice elems spare => uptoBulkAll elems + uptoBulkAll spare + 1
  | .agg parts => uptoBulkAll parts + 1
  | .iface _ d => uptoBulk d + 1
  | .map entries => uptoBulkEntries entries + 1
  | .held _ => 1
def uptoBulkAll {H : Type} : List (DataW H) → Nat
  | [] => 0
  | d :: r => uptoBulk d + uptoBulkAll r
def uptoBulkEntries {H : Type} : List (Lit × DataW H) → Nat
  | [] => 0
  | x :: r => uptoBulkEntry x + uptoBulkEntries r
def uptoBulkEntry {H : Type} : Lit × DataW H → Nat
  | (.string bytes, d) => bytes.length + uptoBulk d + 1
  | (_, d) => uptoBulk d + 1
 end
def uptoSmall : (H : Type) → List (DataW H) → Bool := fun _ ds => decide (uptoBulkAll ds ≤ 1048576)
def OpenSpec.upto (s : _root_.Go.ChangeSpec) : _root_.Go.OpenSpec := { _root_.Go.OpenSpec.ofChange s with cond := some uptoSmall }

/-- 'chartroomlaw10.FolderNone', WHERE WHAT IT READS IS OF BULK AT MOST 1048576: true; the input reads as it did. -/
def folderNoneUptoRow : OpenClaim := { program := "ytbhmnmmockmibaagreatdoor", sum := "5c02fd4902ead9d3a2428fc5fc730e2e102c6b791ed4a7ed304d602e3bd9a31b", func := "chartroom/chartroomlaw10.FolderNone", spec := "folderNone", inPlace := ["internal/bytealg.abigen_runtime_cmpstring"], unfollowed := true, recurses := true, named := ["chartroom/folder.words"], apart := false, laid := [("chartroom/folder.words", laid_chartroom_folder_words)], narrowed := true }
def FolderNoneUptoSaid : Prop := folderNoneUptoRow.holds Tryz.pinned (OpenSpec.upto folderNoneSpec)

/-- 'chartroomlaw10.FolderKnown', WHERE WHAT IT READS IS OF BULK AT MOST 1048576: true; the input reads as it did. -/
def folderKnownUptoRow : OpenClaim := { program := "ytbhmnmmockmibaagreatdoor", sum := "5c02fd4902ead9d3a2428fc5fc730e2e102c6b791ed4a7ed304d602e3bd9a31b", func := "chartroom/chartroomlaw10.FolderKnown", spec := "folderKnown", inPlace := ["internal/bytealg.abigen_runtime_cmpstring"], unfollowed := true, recurses := true, named := ["chartroom/folder.words"], apart := false, laid := [("chartroom/folder.words", laid_chartroom_folder_words)], narrowed := true }
def FolderKnownUptoSaid : Prop := folderKnownUptoRow.holds Tryz.pinned (OpenSpec.upto folderKnownSpec)

end Rows
end Go.Proofs.YtbhmnmmockmibaaGreatDoor
