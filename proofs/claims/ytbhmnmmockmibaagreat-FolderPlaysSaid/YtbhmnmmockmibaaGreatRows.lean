/-
  No cell of these rows narrows 'for every input' (looked for: loops, veiled, ifaces, maps, wideKeys, modest, calm, conditions, laid).
  DERIVED. THE GIVEN ROWS OF THIS SEAT. 3 by the template 'for every input the law returns true; each argument reads behind the call as it read before'; 0 by the template 'total and deterministic' (their statements: YtbhmnmmockmibaaGreatTotals.lean).
  GIVEN WITH THE SEED: the statements are not yours to turn. If you find one false, say at which input.
  Laid BY PROGRAM, IN A SANDBOX (cutbox-rows.mjs): the forced cells as the released guide's own fill.sh prints them over the translation 6a7beb78abb25ee4… (all of the seat's roots in one cut). By AI agents, Wed Nov 11 2026. No macro, syntax, notation, axiom, sorry.
-/
import Derived.Test.YtbhmnmmockmibaaGreatChecked
import GoSem.Claim
import GoSem.ClaimJoined
import GoSem.ClaimMapViews
import Derived.JoinedTies
import Derived.KernelRfl
namespace Go.Proofs.YtbhmnmmockmibaaGreat
/- THE CELL 'sum', in the pinned program and in every row, IS THE sha256 OF THE DUMP (.gsa) THAT YtbhmnmmockmibaaGreatProg.lean LOADS. Nothing in Lean hashes anything: it is a label: what it is worth is what the hold of that sum in a sandbox is worth. -/
noncomputable def Tryz.pinned : Pinned := { name := "ytbhmnmmockmibaagreat", sum := "6a7beb78abb25ee4754457bb562fdd791732630d11cb82b6b6d337d4e1549611", checked := Tryz.checked }
namespace Rows
def none {H : Type} : Left H := { results := [], args := [] }

/-- 'chartroomlaw10.FolderPlays': WHATEVER THE INPUT: true; the input reads as it did. -/
def folderPlaysSpec : ChangeSpec := { name := "folderPlays", fn := fun _ => fun
  | [d1, d2, d3] => { results := [.lit (.bool true)], args := [d1, d2, d3] }
  | _ => none }
def folderPlaysRow : OpenClaim := { program := "ytbhmnmmockmibaagreat", sum := "6a7beb78abb25ee4754457bb562fdd791732630d11cb82b6b6d337d4e1549611", func := "chartroom/chartroomlaw10.FolderPlays", spec := "folderPlays", inPlace := ["internal/bytealg.abigen_runtime_cmpstring"], unfollowed := true, recurses := true, apart := false }
def FolderPlaysSaid : Prop := folderPlaysRow.holds Tryz.pinned (OpenSpec.ofChange folderPlaysSpec)

/-- ITS FALSE NEIGHBOUR: 'it returns false'. Refute it at one input. -/
def folderPlaysWrong : ChangeSpec := { name := "folderPlays", fn := fun _ => fun
  | [d1, d2, d3] => { results := [.lit (.bool false)], args := [d1, d2, d3] }
  | _ => none }
def FolderPlaysWrongFalsely : Prop := folderPlaysRow.holds Tryz.pinned (OpenSpec.ofChange folderPlaysWrong)

/-- 'chartroomlaw10.FolderKeeps': WHATEVER THE INPUT: true; the input reads as it did. -/
def folderKeepsSpec : ChangeSpec := { name := "folderKeeps", fn := fun _ => fun
  | [d1, d2, d3, d4, d5, d6] => { results := [.lit (.bool true)], args := [d1, d2, d3, d4, d5, d6] }
  | _ => none }
def folderKeepsRow : OpenClaim := { program := "ytbhmnmmockmibaagreat", sum := "6a7beb78abb25ee4754457bb562fdd791732630d11cb82b6b6d337d4e1549611", func := "chartroom/chartroomlaw10.FolderKeeps", spec := "folderKeeps", inPlace := ["internal/bytealg.abigen_runtime_cmpstring"], unfollowed := true, recurses := true, apart := false }
def FolderKeepsSaid : Prop := folderKeepsRow.holds Tryz.pinned (OpenSpec.ofChange folderKeepsSpec)

/-- ITS FALSE NEIGHBOUR: 'it returns false'. Refute it at one input. -/
def folderKeepsWrong : ChangeSpec := { name := "folderKeeps", fn := fun _ => fun
  | [d1, d2, d3, d4, d5, d6] => { results := [.lit (.bool false)], args := [d1, d2, d3, d4, d5, d6] }
  | _ => none }
def FolderKeepsWrongFalsely : Prop := folderKeepsRow.holds Tryz.pinned (OpenSpec.ofChange folderKeepsWrong)

/-- 'chartroomlaw10.FolderBounds': WHATEVER THE INPUT: true; the input reads as it did. -/
def folderBoundsSpec : ChangeSpec := { name := "folderBounds", fn := fun _ => fun
  | [d1, d2, d3] => { results := [.lit (.bool true)], args := [d1, d2, d3] }
  | _ => none }
def folderBoundsRow : OpenClaim := { program := "ytbhmnmmockmibaagreat", sum := "6a7beb78abb25ee4754457bb562fdd791732630d11cb82b6b6d337d4e1549611", func := "chartroom/chartroomlaw10.FolderBounds", spec := "folderBounds", inPlace := ["internal/bytealg.abigen_runtime_cmpstring"], unfollowed := true, recurses := true, apart := false }
def FolderBoundsSaid : Prop := folderBoundsRow.holds Tryz.pinned (OpenSpec.ofChange folderBoundsSpec)

/-- ITS FALSE NEIGHBOUR: 'it returns false'. Refute it at one input. -/
def folderBoundsWrong : ChangeSpec := { name := "folderBounds", fn := fun _ => fun
  | [d1, d2, d3] => { results := [.lit (.bool false)], args := [d1, d2, d3] }
  | _ => none }
def FolderBoundsWrongFalsely : Prop := folderBoundsRow.holds Tryz.pinned (OpenSpec.ofChange folderBoundsWrong)

/- THE SECOND FORM. 'bulk': how many values and letters a reading holds, each counted each time it is reached (what is shared counts as often as it is met; a slice's spare places count too). A statement '..UptoSaid' is the law's where the arguments, and the package variables that the reading takes, are together of bulk at most 1048576: NARROWER than '..Said'. Prove '..Said' where nothing that the law and all that it calls make is longer than what came in: it says more and counts as full. Else prove '..UptoSaid'. A law counts once. -/
mutual
def uptoBulk {H : Type} : DataW H → Nat
  | .lit (.string bytes) => bytes.length + 1
  | .lit _ => 1
  | .nil => 1
  | .ptr d => uptoBulk d + 1
  | .slice elems spare => uptoBulkAll elems + uptoBulkAll spare + 1
  | .agg parts => uptoBulkAll parts + 1
  | .iface _ d => uptoBulk d + 1
  | .map entries => uptoBulkEntries entries + 1
  | .held _ => 1
def uptoBulkAll {H : Type} : List (DataW H) → Nat
  | [] => 0
  | d :: r => uptoBulk d + uptoBulkAll r
def uptoBulkEntries {H : Type} : List (Lit × DataW H) → Nat
  | [] => 0
  | x :: r => uptoBulkEntry x + uptoBulkEntries r
def uptoBulkEntry {H : Type} : Lit × DataW H → Nat
  | (.string bytes, d) => bytes.length + uptoBulk d + 1
  | (_, d) => uptoBulk d + 1
 end
def uptoSmall : (H : Type) → List (DataW H) → Bool := fun _ ds => decide (uptoBulkAll ds ≤ 1048576)
def OpenSpec.upto (s : _root_.Go.ChangeSpec) : _root_.Go.OpenSpec := { _root_.Go.OpenSpec.ofChange s with cond := some uptoSmall }

/-- 'chartroomlaw10.FolderPlays', WHERE WHAT IT READS IS OF BULK AT MOST 1048576: true; the input reads as it did. -/
def folderPlaysUptoRow : OpenClaim := { program := "ytbhmnmmockmibaagreat", sum := "6a7beb78abb25ee4754457bb562fdd791732630d11cb82b6b6d337d4e1549611", func := "chartroom/chartroomlaw10.FolderPlays", spec := "folderPlays", inPlace := ["internal/bytealg.abigen_runtime_cmpstring"], unfollowed := true, recurses := true, apart := false, narrowed := true }
def FolderPlaysUptoSaid : Prop := folderPlaysUptoRow.holds Tryz.pinned (OpenSpec.upto folderPlaysSpec)

/-- 'chartroomlaw10.FolderKeeps', WHERE WHAT IT READS IS OF BULK AT MOST 1048576: true; the input reads as it did. -/
def folderKeepsUptoRow : OpenClaim := { program := "ytbhmnmmockmibaagreat", sum := "6a7beb78abb25ee4754457bb562fdd791732630d11cb82b6b6d337d4e1549611", func := "chartroom/chartroomlaw10.FolderKeeps", spec := "folderKeeps", inPlace := ["internal/bytealg.abigen_runtime_cmpstring"], unfollowed := true, recurses := true, apart := false, narrowed := true }
def FolderKeepsUptoSaid : Prop := folderKeepsUptoRow.holds Tryz.pinned (OpenSpec.upto folderKeepsSpec)

/-- 'chartroomlaw10.FolderBounds', WHERE WHAT IT READS IS OF BULK AT MOST 1048576: true; the input reads as it did. -/
def folderBoundsUptoRow : OpenClaim := { program := "ytbhmnmmockmibaagreat", sum := "6a7beb78abb25ee4754457bb562fdd791732630d11cb82b6b6d337d4e1549611", func := "chartroom/chartroomlaw10.FolderBounds", spec := "folderBounds", inPlace := ["internal/bytealg.abigen_runtime_cmpstring"], unfollowed := true, recurses := true, apart := false, narrowed := true }
def FolderBoundsUptoSaid : Prop := folderBoundsUptoRow.holds Tryz.pinned (OpenSpec.upto folderBoundsSpec)

end Rows
end Go.Proofs.YtbhmnmmockmibaaGreat
