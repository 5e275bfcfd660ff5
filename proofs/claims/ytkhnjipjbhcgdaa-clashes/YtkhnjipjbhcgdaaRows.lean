/-
  No cell of these rows narrows 'for every input' (looked for: loops, veiled, ifaces, maps, wideKeys, modest, calm, conditions, laid).
  DERIVED. THE GIVEN ROWS OF THIS SEAT. 11 by the template 'for every input the law returns true; each argument reads behind the call as it read before'; 0 by the template 'total and deterministic' (their statements: YtkhnjipjbhcgdaaTotals.lean).
  GIVEN WITH THE SEED: the statements are not yours to turn. If you find one false, say at which input.
  Laid BY PROGRAM, IN A SANDBOX (cutbox-rows.mjs): the forced cells as the released guide's own fill.sh prints them over the translation e5ea995e4b127b85… (all of the seat's roots in one cut). By AI agents, Wed Nov 11 2026. No macro, syntax, notation, axiom, sorry.
-/
import Derived.Test.YtkhnjipjbhcgdaaChecked
import GoSem.Claim
import GoSem.ClaimJoined
import GoSem.ClaimMapViews
import Derived.JoinedTies
import Derived.KernelRfl
namespace Go.Proofs.Ytkhnjipjbhcgdaa
/- THE CELL 'sum', in the pinned program and in every row, IS THE sha256 OF THE DUMP (.gsa) THAT YtkhnjipjbhcgdaaProg.lean LOADS. Nothing in Lean hashes anything: it is a label: what it is worth is what the hold of that sum in a sandbox is worth. -/
noncomputable def Try.pinned : Pinned := { name := "ytkhnjipjbhcgdaa", sum := "e5ea995e4b127b853523d11f1b4efa27d27a769e2caf0ed4e75fb0cfec7fe9d1", checked := Try.checked }
namespace Rows
def none {H : Type} : Left H := { results := [], args := [] }

/-- 'treeheadlaw.Sums': WHATEVER THE INPUT: true; the input reads as it did. -/
def sumsSpec : ChangeSpec := { name := "sums", fn := fun _ => fun
  | [d] => { results := [.lit (.bool true)], args := [d] }
  | _ => none }
def sumsRow : OpenClaim := { program := "ytkhnjipjbhcgdaa", sum := "e5ea995e4b127b853523d11f1b4efa27d27a769e2caf0ed4e75fb0cfec7fe9d1", func := "treehead/treeheadlaw.Sums", spec := "sums", apart := false }
def SumsSaid : Prop := sumsRow.holds Try.pinned (OpenSpec.ofChange sumsSpec)

/-- ITS FALSE NEIGHBOUR: 'it returns false'. Refute it at one input. -/
def sumsWrong : ChangeSpec := { name := "sums", fn := fun _ => fun
  | [d] => { results := [.lit (.bool false)], args := [d] }
  | _ => none }
def SumsWrongFalsely : Prop := sumsRow.holds Try.pinned (OpenSpec.ofChange sumsWrong)

/-- 'treeheadlaw.Roots': WHATEVER THE INPUT: true; the input reads as it did. -/
def rootsSpec : ChangeSpec := { name := "roots", fn := fun _ => fun
  | [d] => { results := [.lit (.bool true)], args := [d] }
  | _ => none }
def rootsRow : OpenClaim := { program := "ytkhnjipjbhcgdaa", sum := "e5ea995e4b127b853523d11f1b4efa27d27a769e2caf0ed4e75fb0cfec7fe9d1", func := "treehead/treeheadlaw.Roots", spec := "roots", recurses := true, apart := false }
def RootsSaid : Prop := rootsRow.holds Try.pinned (OpenSpec.ofChange rootsSpec)

/-- ITS FALSE NEIGHBOUR: 'it returns false'. Refute it at one input. -/
def rootsWrong : ChangeSpec := { name := "roots", fn := fun _ => fun
  | [d] => { results := [.lit (.bool false)], args := [d] }
  | _ => none }
def RootsWrongFalsely : Prop := rootsRow.holds Try.pinned (OpenSpec.ofChange rootsWrong)

/-- 'treeheadlaw.Paths': WHATEVER THE INPUT: true; the input reads as it did. -/
def pathsSpec : ChangeSpec := { name := "paths", fn := fun _ => fun
  | [d1, d2, d3] => { results := [.lit (.bool true)], args := [d1, d2, d3] }
  | _ => none }
def pathsRow : OpenClaim := { program := "ytkhnjipjbhcgdaa", sum := "e5ea995e4b127b853523d11f1b4efa27d27a769e2caf0ed4e75fb0cfec7fe9d1", func := "treehead/treeheadlaw.Paths", spec := "paths", recurses := true, apart := false }
def PathsSaid : Prop := pathsRow.holds Try.pinned (OpenSpec.ofChange pathsSpec)

/-- ITS FALSE NEIGHBOUR: 'it returns false'. Refute it at one input. -/
def pathsWrong : ChangeSpec := { name := "paths", fn := fun _ => fun
  | [d1, d2, d3] => { results := [.lit (.bool false)], args := [d1, d2, d3] }
  | _ => none }
def PathsWrongFalsely : Prop := pathsRow.holds Try.pinned (OpenSpec.ofChange pathsWrong)

/-- 'treeheadlaw.Checks': WHATEVER THE INPUT: true; the input reads as it did. -/
def checksSpec : ChangeSpec := { name := "checks", fn := fun _ => fun
  | [d1, d2, d3, d4, d5] => { results := [.lit (.bool true)], args := [d1, d2, d3, d4, d5] }
  | _ => none }
def checksRow : OpenClaim := { program := "ytkhnjipjbhcgdaa", sum := "e5ea995e4b127b853523d11f1b4efa27d27a769e2caf0ed4e75fb0cfec7fe9d1", func := "treehead/treeheadlaw.Checks", spec := "checks", inPlace := ["internal/bytealg.IndexByteString", "internal/abi.NoEscape", "internal/bytealg.MakeNoZero"], unfollowed := true, recurses := true, apart := false }
def ChecksSaid : Prop := checksRow.holds Try.pinned (OpenSpec.ofChange checksSpec)

/-- ITS FALSE NEIGHBOUR: 'it returns false'. Refute it at one input. -/
def checksWrong : ChangeSpec := { name := "checks", fn := fun _ => fun
  | [d1, d2, d3, d4, d5] => { results := [.lit (.bool false)], args := [d1, d2, d3, d4, d5] }
  | _ => none }
def ChecksWrongFalsely : Prop := checksRow.holds Try.pinned (OpenSpec.ofChange checksWrong)

/-- 'treeheadlaw.Signs': WHATEVER THE INPUT: true; the input reads as it did. -/
def signsSpec : ChangeSpec := { name := "signs", fn := fun _ => fun
  | [d1, d2, d3, d4, d5] => { results := [.lit (.bool true)], args := [d1, d2, d3, d4, d5] }
  | _ => none }
def signsRow : OpenClaim := { program := "ytkhnjipjbhcgdaa", sum := "e5ea995e4b127b853523d11f1b4efa27d27a769e2caf0ed4e75fb0cfec7fe9d1", func := "treehead/treeheadlaw.Signs", spec := "signs", inPlace := ["internal/bytealg.IndexByteString"], apart := false }
def SignsSaid : Prop := signsRow.holds Try.pinned (OpenSpec.ofChange signsSpec)

/-- ITS FALSE NEIGHBOUR: 'it returns false'. Refute it at one input. -/
def signsWrong : ChangeSpec := { name := "signs", fn := fun _ => fun
  | [d1, d2, d3, d4, d5] => { results := [.lit (.bool false)], args := [d1, d2, d3, d4, d5] }
  | _ => none }
def SignsWrongFalsely : Prop := signsRow.holds Try.pinned (OpenSpec.ofChange signsWrong)

/-- 'treeheadlaw.Convicted': WHATEVER THE INPUT: true; the input reads as it did. -/
def convictedSpec : ChangeSpec := { name := "convicted", fn := fun _ => fun
  | [d1, d2, d3, d4] => { results := [.lit (.bool true)], args := [d1, d2, d3, d4] }
  | _ => none }
def convictedRow : OpenClaim := { program := "ytkhnjipjbhcgdaa", sum := "e5ea995e4b127b853523d11f1b4efa27d27a769e2caf0ed4e75fb0cfec7fe9d1", func := "treehead/treeheadlaw.Convicted", spec := "convicted", inPlace := ["internal/bytealg.IndexByteString"], apart := false }
def ConvictedSaid : Prop := convictedRow.holds Try.pinned (OpenSpec.ofChange convictedSpec)

/-- ITS FALSE NEIGHBOUR: 'it returns false'. Refute it at one input. -/
def convictedWrong : ChangeSpec := { name := "convicted", fn := fun _ => fun
  | [d1, d2, d3, d4] => { results := [.lit (.bool false)], args := [d1, d2, d3, d4] }
  | _ => none }
def ConvictedWrongFalsely : Prop := convictedRow.holds Try.pinned (OpenSpec.ofChange convictedWrong)

/-- 'treeheadlaw.Clashes': WHATEVER THE INPUT: true; the input reads as it did. -/
def clashesSpec : ChangeSpec := { name := "clashes", fn := fun _ => fun
  | [d1, d2, d3] => { results := [.lit (.bool true)], args := [d1, d2, d3] }
  | _ => none }
def clashesRow : OpenClaim := { program := "ytkhnjipjbhcgdaa", sum := "e5ea995e4b127b853523d11f1b4efa27d27a769e2caf0ed4e75fb0cfec7fe9d1", func := "treehead/treeheadlaw.Clashes", spec := "clashes", inPlace := ["internal/abi.NoEscape", "internal/bytealg.MakeNoZero", "internal/bytealg.IndexByteString"], unfollowed := true, recurses := true, apart := false }
def ClashesSaid : Prop := clashesRow.holds Try.pinned (OpenSpec.ofChange clashesSpec)

/-- ITS FALSE NEIGHBOUR: 'it returns false'. Refute it at one input. -/
def clashesWrong : ChangeSpec := { name := "clashes", fn := fun _ => fun
  | [d1, d2, d3] => { results := [.lit (.bool false)], args := [d1, d2, d3] }
  | _ => none }
def ClashesWrongFalsely : Prop := clashesRow.holds Try.pinned (OpenSpec.ofChange clashesWrong)

/-- 'treeheadkeep.Known': WHATEVER THE INPUT: true; the input reads as it did. -/
def knownSpec : ChangeSpec := { name := "known", fn := fun _ => fun
  | [d] => { results := [.lit (.bool true)], args := [d] }
  | _ => none }
def knownRow : OpenClaim := { program := "ytkhnjipjbhcgdaa", sum := "e5ea995e4b127b853523d11f1b4efa27d27a769e2caf0ed4e75fb0cfec7fe9d1", func := "treehead/treeheadkeep.Known", spec := "known", recurses := true, apart := false }
def KnownSaid : Prop := knownRow.holds Try.pinned (OpenSpec.ofChange knownSpec)

/-- ITS FALSE NEIGHBOUR: 'it returns false'. Refute it at one input. -/
def knownWrong : ChangeSpec := { name := "known", fn := fun _ => fun
  | [d] => { results := [.lit (.bool false)], args := [d] }
  | _ => none }
def KnownWrongFalsely : Prop := knownRow.holds Try.pinned (OpenSpec.ofChange knownWrong)

/-- 'treeheadkeep.Summed': WHATEVER THE INPUT: true; the input reads as it did. -/
def summedSpec : ChangeSpec := { name := "summed", fn := fun _ => fun
  | [d1, d2] => { results := [.lit (.bool true)], args := [d1, d2] }
  | _ => none }
def summedRow : OpenClaim := { program := "ytkhnjipjbhcgdaa", sum := "e5ea995e4b127b853523d11f1b4efa27d27a769e2caf0ed4e75fb0cfec7fe9d1", func := "treehead/treeheadkeep.Summed", spec := "summed", apart := false }
def SummedSaid : Prop := summedRow.holds Try.pinned (OpenSpec.ofChange summedSpec)

/-- ITS FALSE NEIGHBOUR: 'it returns false'. Refute it at one input. -/
def summedWrong : ChangeSpec := { name := "summed", fn := fun _ => fun
  | [d1, d2] => { results := [.lit (.bool false)], args := [d1, d2] }
  | _ => none }
def SummedWrongFalsely : Prop := summedRow.holds Try.pinned (OpenSpec.ofChange summedWrong)

/-- 'treeheadkeep.Rooted': WHATEVER THE INPUT: true; the input reads as it did. -/
def rootedSpec : ChangeSpec := { name := "rooted", fn := fun _ => fun
  | [d1, d2, d3] => { results := [.lit (.bool true)], args := [d1, d2, d3] }
  | _ => none }
def rootedRow : OpenClaim := { program := "ytkhnjipjbhcgdaa", sum := "e5ea995e4b127b853523d11f1b4efa27d27a769e2caf0ed4e75fb0cfec7fe9d1", func := "treehead/treeheadkeep.Rooted", spec := "rooted", recurses := true, apart := false }
def RootedSaid : Prop := rootedRow.holds Try.pinned (OpenSpec.ofChange rootedSpec)

/-- ITS FALSE NEIGHBOUR: 'it returns false'. Refute it at one input. -/
def rootedWrong : ChangeSpec := { name := "rooted", fn := fun _ => fun
  | [d1, d2, d3] => { results := [.lit (.bool false)], args := [d1, d2, d3] }
  | _ => none }
def RootedWrongFalsely : Prop := rootedRow.holds Try.pinned (OpenSpec.ofChange rootedWrong)

/-- 'treeheadkeep.Shown': WHATEVER THE INPUT: true; the input reads as it did. -/
def shownSpec : ChangeSpec := { name := "shown", fn := fun _ => fun
  | [d1, d2, d3] => { results := [.lit (.bool true)], args := [d1, d2, d3] }
  | _ => none }
def shownRow : OpenClaim := { program := "ytkhnjipjbhcgdaa", sum := "e5ea995e4b127b853523d11f1b4efa27d27a769e2caf0ed4e75fb0cfec7fe9d1", func := "treehead/treeheadkeep.Shown", spec := "shown", inPlace := ["internal/bytealg.IndexByteString", "internal/abi.NoEscape", "internal/bytealg.MakeNoZero"], unfollowed := true, recurses := true, apart := false }
def ShownSaid : Prop := shownRow.holds Try.pinned (OpenSpec.ofChange shownSpec)

/-- ITS FALSE NEIGHBOUR: 'it returns false'. Refute it at one input. -/
def shownWrong : ChangeSpec := { name := "shown", fn := fun _ => fun
  | [d1, d2, d3] => { results := [.lit (.bool false)], args := [d1, d2, d3] }
  | _ => none }
def ShownWrongFalsely : Prop := shownRow.holds Try.pinned (OpenSpec.ofChange shownWrong)

/- THE SECOND FORM. 'bulk': how many values and letters a reading holds, each counted each time it is reached (what is shared counts as often as it is met; a slice's spare places count too). A statement '..UptoSaid' is the law's where the arguments, and the package variables that the reading takes, are together of bulk at most 1048576: NARROWER than '..Said'. Prove '..Said' where nothing that the law and all that it calls make is longer than what came in: it says more and counts as full. Else prove '..UptoSaid'. A law counts once. -/
mutual
def uptoBulk {H : Type} : DataW H → Nat
  | .lit (.string bytes) => bytes.length + 1
  | .lit _ => 1
  | .nil => 1
  | .ptr d => uptoBulk d + 1
  | .slice elems spare => uptoBulkAll elems + uptoBulkAll spare + 1
  | .agg parts => uptoBulkAll parts + 1
  | .iface _ d => uptoBulk d + 1
  | .map entries => uptoBulkEntries entries + 1
  | .held _ => 1
def uptoBulkAll {H : Type} : List (DataW H) → Nat
  | [] => 0
  | d :: r => uptoBulk d + uptoBulkAll r
def uptoBulkEntries {H : Type} : List (Lit × DataW H) → Nat
  | [] => 0
  | x :: r => uptoBulkEntry x + uptoBulkEntries r
def uptoBulkEntry {H : Type} : Lit × DataW H → Nat
  | (.string bytes, d) => bytes.length + uptoBulk d + 1
  | (_, d) => uptoBulk d + 1
 end
def uptoSmall : (H : Type) → List (DataW H) → Bool := fun _ ds => decide (uptoBulkAll ds ≤ 1048576)
def OpenSpec.upto (s : _root_.Go.ChangeSpec) : _root_.Go.OpenSpec := { _root_.Go.OpenSpec.ofChange s with cond := some uptoSmall }

/-- 'treeheadlaw.Sums', WHERE WHAT IT READS IS OF BULK AT MOST 1048576: true; the input reads as it did. -/
def sumsUptoRow : OpenClaim := { program := "ytkhnjipjbhcgdaa", sum := "e5ea995e4b127b853523d11f1b4efa27d27a769e2caf0ed4e75fb0cfec7fe9d1", func := "treehead/treeheadlaw.Sums", spec := "sums", apart := false, narrowed := true }
def SumsUptoSaid : Prop := sumsUptoRow.holds Try.pinned (OpenSpec.upto sumsSpec)

/-- 'treeheadlaw.Roots', WHERE WHAT IT READS IS OF BULK AT MOST 1048576: true; the input reads as it did. -/
def rootsUptoRow : OpenClaim := { program := "ytkhnjipjbhcgdaa", sum := "e5ea995e4b127b853523d11f1b4efa27d27a769e2caf0ed4e75fb0cfec7fe9d1", func := "treehead/treeheadlaw.Roots", spec := "roots", recurses := true, apart := false, narrowed := true }
def RootsUptoSaid : Prop := rootsUptoRow.holds Try.pinned (OpenSpec.upto rootsSpec)

/-- 'treeheadlaw.Paths', WHERE WHAT IT READS IS OF BULK AT MOST 1048576: true; the input reads as it did. -/
def pathsUptoRow : OpenClaim := { program := "ytkhnjipjbhcgdaa", sum := "e5ea995e4b127b853523d11f1b4efa27d27a769e2caf0ed4e75fb0cfec7fe9d1", func := "treehead/treeheadlaw.Paths", spec := "paths", recurses := true, apart := false, narrowed := true }
def PathsUptoSaid : Prop := pathsUptoRow.holds Try.pinned (OpenSpec.upto pathsSpec)

/-- 'treeheadlaw.Checks', WHERE WHAT IT READS IS OF BULK AT MOST 1048576: true; the input reads as it did. -/
def checksUptoRow : OpenClaim := { program := "ytkhnjipjbhcgdaa", sum := "e5ea995e4b127b853523d11f1b4efa27d27a769e2caf0ed4e75fb0cfec7fe9d1", func := "treehead/treeheadlaw.Checks", spec := "checks", inPlace := ["internal/bytealg.IndexByteString", "internal/abi.NoEscape", "internal/bytealg.MakeNoZero"], unfollowed := true, recurses := true, apart := false, narrowed := true }
def ChecksUptoSaid : Prop := checksUptoRow.holds Try.pinned (OpenSpec.upto checksSpec)

/-- 'treeheadlaw.Signs', WHERE WHAT IT READS IS OF BULK AT MOST 1048576: true; the input reads as it did. -/
def signsUptoRow : OpenClaim := { program := "ytkhnjipjbhcgdaa", sum := "e5ea995e4b127b853523d11f1b4efa27d27a769e2caf0ed4e75fb0cfec7fe9d1", func := "treehead/treeheadlaw.Signs", spec := "signs", inPlace := ["internal/bytealg.IndexByteString"], apart := false, narrowed := true }
def SignsUptoSaid : Prop := signsUptoRow.holds Try.pinned (OpenSpec.upto signsSpec)

/-- 'treeheadlaw.Convicted', WHERE WHAT IT READS IS OF BULK AT MOST 1048576: true; the input reads as it did. -/
def convictedUptoRow : OpenClaim := { program := "ytkhnjipjbhcgdaa", sum := "e5ea995e4b127b853523d11f1b4efa27d27a769e2caf0ed4e75fb0cfec7fe9d1", func := "treehead/treeheadlaw.Convicted", spec := "convicted", inPlace := ["internal/bytealg.IndexByteString"], apart := false, narrowed := true }
def ConvictedUptoSaid : Prop := convictedUptoRow.holds Try.pinned (OpenSpec.upto convictedSpec)

/-- 'treeheadlaw.Clashes', WHERE WHAT IT READS IS OF BULK AT MOST 1048576: true; the input reads as it did. -/
def clashesUptoRow : OpenClaim := { program := "ytkhnjipjbhcgdaa", sum := "e5ea995e4b127b853523d11f1b4efa27d27a769e2caf0ed4e75fb0cfec7fe9d1", func := "treehead/treeheadlaw.Clashes", spec := "clashes", inPlace := ["internal/abi.NoEscape", "internal/bytealg.MakeNoZero", "internal/bytealg.IndexByteString"], unfollowed := true, recurses := true, apart := false, narrowed := true }
def ClashesUptoSaid : Prop := clashesUptoRow.holds Try.pinned (OpenSpec.upto clashesSpec)

/-- 'treeheadkeep.Known', WHERE WHAT IT READS IS OF BULK AT MOST 1048576: true; the input reads as it did. -/
def knownUptoRow : OpenClaim := { program := "ytkhnjipjbhcgdaa", sum := "e5ea995e4b127b853523d11f1b4efa27d27a769e2caf0ed4e75fb0cfec7fe9d1", func := "treehead/treeheadkeep.Known", spec := "known", recurses := true, apart := false, narrowed := true }
def KnownUptoSaid : Prop := knownUptoRow.holds Try.pinned (OpenSpec.upto knownSpec)

/-- 'treeheadkeep.Summed', WHERE WHAT IT READS IS OF BULK AT MOST 1048576: true; the input reads as it did. -/
def summedUptoRow : OpenClaim := { program := "ytkhnjipjbhcgdaa", sum := "e5ea995e4b127b853523d11f1b4efa27d27a769e2caf0ed4e75fb0cfec7fe9d1", func := "treehead/treeheadkeep.Summed", spec := "summed", apart := false, narrowed := true }
def SummedUptoSaid : Prop := summedUptoRow.holds Try.pinned (OpenSpec.upto summedSpec)

/-- 'treeheadkeep.Rooted', WHERE WHAT IT READS IS OF BULK AT MOST 1048576: true; the input reads as it did. -/
def rootedUptoRow : OpenClaim := { program := "ytkhnjipjbhcgdaa", sum := "e5ea995e4b127b853523d11f1b4efa27d27a769e2caf0ed4e75fb0cfec7fe9d1", func := "treehead/treeheadkeep.Rooted", spec := "rooted", recurses := true, apart := false, narrowed := true }
def RootedUptoSaid : Prop := rootedUptoRow.holds Try.pinned (OpenSpec.upto rootedSpec)

/-- 'treeheadkeep.Shown', WHERE WHAT IT READS IS OF BULK AT MOST 1048576: true; the input reads as it did. -/
def shownUptoRow : OpenClaim := { program := "ytkhnjipjbhcgdaa", sum := "e5ea995e4b127b853523d11f1b4efa27d27a769e2caf0ed4e75fb0cfec7fe9d1", func := "treehead/treeheadkeep.Shown", spec := "shown", inPlace := ["internal/bytealg.IndexByteString", "internal/abi.NoEscape", "internal/bytealg.MakeNoZero"], unfollowed := true, recurses := true, apart := false, narrowed := true }
def ShownUptoSaid : Prop := shownUptoRow.holds Try.pinned (OpenSpec.upto shownSpec)

end Rows
end Go.Proofs.Ytkhnjipjbhcgdaa
