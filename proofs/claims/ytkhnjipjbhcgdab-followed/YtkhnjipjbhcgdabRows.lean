/-
  No cell of these rows narrows 'for every input' (looked for: loops, veiled, ifaces, maps, wideKeys, modest, calm, conditions, laid).
  DERIVED. THE GIVEN ROWS OF THIS SEAT. 5 by the template 'for every input the law returns true; each argument reads behind the call as it read before'; 0 by the template 'total and deterministic' (their statements: YtkhnjipjbhcgdabTotals.lean).
  GIVEN WITH THE SEED: the statements are not yours to turn. If you find one false, say at which input.
  Laid BY PROGRAM, IN A SANDBOX (cutbox-rows.mjs): the forced cells as the released guide's own fill.sh prints them over the translation 781b321d8083eec5… (all of the seat's roots in one cut). By AI agents, Wed Nov 11 2026. No macro, syntax, notation, axiom, sorry.
-/
import Derived.Test.YtkhnjipjbhcgdabChecked
import GoSem.Claim
import GoSem.ClaimJoined
import GoSem.ClaimMapViews
import Derived.JoinedTies
import Derived.KernelRfl
namespace Go.Proofs.Ytkhnjipjbhcgdab
/- THE CELL 'sum', in the pinned program and in every row, IS THE sha256 OF THE DUMP (.gsa) THAT YtkhnjipjbhcgdabProg.lean LOADS. Nothing in Lean hashes anything: it is a label: what it is worth is what the hold of that sum in a sandbox is worth. -/
noncomputable def Try.pinned : Pinned := { name := "ytkhnjipjbhcgdab", sum := "781b321d8083eec5baa908c6cd17af9331d6a32c2d1ec874ebc48f94609e9d69", checked := Try.checked }
namespace Rows
def none {H : Type} : Left H := { results := [], args := [] }

/-- 'treeheadkeep.Opened': WHATEVER THE INPUT: true; the input reads as it did. -/
def openedSpec : ChangeSpec := { name := "opened", fn := fun _ => fun
  | [d1, d2, d3, d4, d5] => { results := [.lit (.bool true)], args := [d1, d2, d3, d4, d5] }
  | _ => none }
def openedRow : OpenClaim := { program := "ytkhnjipjbhcgdab", sum := "781b321d8083eec5baa908c6cd17af9331d6a32c2d1ec874ebc48f94609e9d69", func := "treehead/treeheadkeep.Opened", spec := "opened", inPlace := ["internal/bytealg.IndexByteString"], apart := false }
def OpenedSaid : Prop := openedRow.holds Try.pinned (OpenSpec.ofChange openedSpec)

/-- ITS FALSE NEIGHBOUR: 'it returns false'. Refute it at one input. -/
def openedWrong : ChangeSpec := { name := "opened", fn := fun _ => fun
  | [d1, d2, d3, d4, d5] => { results := [.lit (.bool false)], args := [d1, d2, d3, d4, d5] }
  | _ => none }
def OpenedWrongFalsely : Prop := openedRow.holds Try.pinned (OpenSpec.ofChange openedWrong)

/-- 'treeheadkeep.Guilty': WHATEVER THE INPUT: true; the input reads as it did. -/
def guiltySpec : ChangeSpec := { name := "guilty", fn := fun _ => fun
  | [d1, d2, d3, d4] => { results := [.lit (.bool true)], args := [d1, d2, d3, d4] }
  | _ => none }
def guiltyRow : OpenClaim := { program := "ytkhnjipjbhcgdab", sum := "781b321d8083eec5baa908c6cd17af9331d6a32c2d1ec874ebc48f94609e9d69", func := "treehead/treeheadkeep.Guilty", spec := "guilty", inPlace := ["internal/bytealg.IndexByteString"], apart := false }
def GuiltySaid : Prop := guiltyRow.holds Try.pinned (OpenSpec.ofChange guiltySpec)

/-- ITS FALSE NEIGHBOUR: 'it returns false'. Refute it at one input. -/
def guiltyWrong : ChangeSpec := { name := "guilty", fn := fun _ => fun
  | [d1, d2, d3, d4] => { results := [.lit (.bool false)], args := [d1, d2, d3, d4] }
  | _ => none }
def GuiltyWrongFalsely : Prop := guiltyRow.holds Try.pinned (OpenSpec.ofChange guiltyWrong)

/-- 'treeheadkeep.Followed': WHATEVER THE INPUT: true; the input reads as it did. -/
def followedSpec : ChangeSpec := { name := "followed", fn := fun _ => fun
  | [d1, d2, d3] => { results := [.lit (.bool true)], args := [d1, d2, d3] }
  | _ => none }
def followedRow : OpenClaim := { program := "ytkhnjipjbhcgdab", sum := "781b321d8083eec5baa908c6cd17af9331d6a32c2d1ec874ebc48f94609e9d69", func := "treehead/treeheadkeep.Followed", spec := "followed", inPlace := ["internal/bytealg.IndexByteString", "internal/abi.NoEscape", "internal/bytealg.MakeNoZero"], unfollowed := true, recurses := true, apart := false }
def FollowedSaid : Prop := followedRow.holds Try.pinned (OpenSpec.ofChange followedSpec)

/-- ITS FALSE NEIGHBOUR: 'it returns false'. Refute it at one input. -/
def followedWrong : ChangeSpec := { name := "followed", fn := fun _ => fun
  | [d1, d2, d3] => { results := [.lit (.bool false)], args := [d1, d2, d3] }
  | _ => none }
def FollowedWrongFalsely : Prop := followedRow.holds Try.pinned (OpenSpec.ofChange followedWrong)

/-- 'treeheadkeep.Failed': WHATEVER THE INPUT: true; the input reads as it did. -/
def failedSpec : ChangeSpec := { name := "failed", fn := fun _ => fun
  | [d1, d2, d3, d4, d5] => { results := [.lit (.bool true)], args := [d1, d2, d3, d4, d5] }
  | _ => none }
def failedRow : OpenClaim := { program := "ytkhnjipjbhcgdab", sum := "781b321d8083eec5baa908c6cd17af9331d6a32c2d1ec874ebc48f94609e9d69", func := "treehead/treeheadkeep.Failed", spec := "failed", inPlace := ["internal/bytealg.IndexByteString", "internal/abi.NoEscape", "internal/bytealg.MakeNoZero"], unfollowed := true, recurses := true, apart := false }
def FailedSaid : Prop := failedRow.holds Try.pinned (OpenSpec.ofChange failedSpec)

/-- ITS FALSE NEIGHBOUR: 'it returns false'. Refute it at one input. -/
def failedWrong : ChangeSpec := { name := "failed", fn := fun _ => fun
  | [d1, d2, d3, d4, d5] => { results := [.lit (.bool false)], args := [d1, d2, d3, d4, d5] }
  | _ => none }
def FailedWrongFalsely : Prop := failedRow.holds Try.pinned (OpenSpec.ofChange failedWrong)

/-- 'treeheadkeep.Sound': WHATEVER THE INPUT: true; the input reads as it did. -/
def soundSpec : ChangeSpec := { name := "sound", fn := fun _ => fun
  | [d1, d2, d3, d4, d5] => { results := [.lit (.bool true)], args := [d1, d2, d3, d4, d5] }
  | _ => none }
def soundRow : OpenClaim := { program := "ytkhnjipjbhcgdab", sum := "781b321d8083eec5baa908c6cd17af9331d6a32c2d1ec874ebc48f94609e9d69", func := "treehead/treeheadkeep.Sound", spec := "sound", inPlace := ["internal/bytealg.IndexByteString", "internal/abi.NoEscape", "internal/bytealg.MakeNoZero"], unfollowed := true, recurses := true, apart := false }
def SoundSaid : Prop := soundRow.holds Try.pinned (OpenSpec.ofChange soundSpec)

/-- ITS FALSE NEIGHBOUR: 'it returns false'. Refute it at one input. -/
def soundWrong : ChangeSpec := { name := "sound", fn := fun _ => fun
  | [d1, d2, d3, d4, d5] => { results := [.lit (.bool false)], args := [d1, d2, d3, d4, d5] }
  | _ => none }
def SoundWrongFalsely : Prop := soundRow.holds Try.pinned (OpenSpec.ofChange soundWrong)

/- THE SECOND FORM. 'bulk': how many values and letters a reading holds, each counted each time it is reached (what is shared counts as often as it is met; a slice's spare places count too). A statement '..UptoSaid' is the law's where the arguments, and the package variables that the reading takes, are together of bulk at most 1048576: NARROWER than '..Said'. Prove '..Said' where nothing that the law and all that it calls make is longer than what came in: it says more and counts as full. Else prove '..UptoSaid'. A law counts once. -/
mutual
def uptoBulk {H : Type} : DataW H → Nat
  | .lit (.string bytes) => bytes.length + 1
  | .lit _ => 1
  | .nil => 1
  | .ptr d => uptoBulk d + 1
  | .slice elems spare => uptoBulkAll elems + uptoBulkAll spare + 1
  | .agg parts => uptoBulkAll parts + 1
  | .iface _ d => uptoBulk d + 1
  | .map entries => uptoBulkEntries entries + 1
  | .held _ => 1
def uptoBulkAll {H : Type} : List (DataW H) → Nat
  | [] => 0
  | d :: r => uptoBulk d + uptoBulkAll r
def uptoBulkEntries {H : Type} : List (Lit × DataW H) → Nat
  | [] => 0
  | x :: r => uptoBulkEntry x + uptoBulkEntries r
def uptoBulkEntry {H : Type} : Lit × DataW H → Nat
  | (.string bytes, d) => bytes.length + uptoBulk d + 1
  | (_, d) => uptoBulk d + 1
 end
def uptoSmall : (H : Type) → List (DataW H) → Bool := fun _ ds => decide (uptoBulkAll ds ≤ 1048576)
def OpenSpec.upto (s : _root_.Go.ChangeSpec) : _root_.Go.OpenSpec := { _root_.Go.OpenSpec.ofChange s with cond := some uptoSmall }

/-- 'treeheadkeep.Opened', WHERE WHAT IT READS IS OF BULK AT MOST 1048576: true; the input reads as it did. -/
def openedUptoRow : OpenClaim := { program := "ytkhnjipjbhcgdab", sum := "781b321d8083eec5baa908c6cd17af9331d6a32c2d1ec874ebc48f94609e9d69", func := "treehead/treeheadkeep.Opened", spec := "opened", inPlace := ["internal/bytealg.IndexByteString"], apart := false, narrowed := true }
def OpenedUptoSaid : Prop := openedUptoRow.holds Try.pinned (OpenSpec.upto openedSpec)

/-- 'treeheadkeep.Guilty', WHERE WHAT IT READS IS OF BULK AT MOST 1048576: true; the input reads as it did. -/
def guiltyUptoRow : OpenClaim := { program := "ytkhnjipjbhcgdab", sum := "781b321d8083eec5baa908c6cd17af9331d6a32c2d1ec874ebc48f94609e9d69", func := "treehead/treeheadkeep.Guilty", spec := "guilty", inPlace := ["internal/bytealg.IndexByteString"], apart := false, narrowed := true }
def GuiltyUptoSaid : Prop := guiltyUptoRow.holds Try.pinned (OpenSpec.upto guiltySpec)

/-- 'treeheadkeep.Followed', WHERE WHAT IT READS IS OF BULK AT MOST 1048576: true; the input reads as it did. -/
def followedUptoRow : OpenClaim := { program := "ytkhnjipjbhcgdab", sum := "781b321d8083eec5baa908c6cd17af9331d6a32c2d1ec874ebc48f94609e9d69", func := "treehead/treeheadkeep.Followed", spec := "followed", inPlace := ["internal/bytealg.IndexByteString", "internal/abi.NoEscape", "internal/bytealg.MakeNoZero"], unfollowed := true, recurses := true, apart := false, narrowed := true }
def FollowedUptoSaid : Prop := followedUptoRow.holds Try.pinned (OpenSpec.upto followedSpec)

/-- 'treeheadkeep.Failed', WHERE WHAT IT READS IS OF BULK AT MOST 1048576: true; the input reads as it did. -/
def failedUptoRow : OpenClaim := { program := "ytkhnjipjbhcgdab", sum := "781b321d8083eec5baa908c6cd17af9331d6a32c2d1ec874ebc48f94609e9d69", func := "treehead/treeheadkeep.Failed", spec := "failed", inPlace := ["internal/bytealg.IndexByteString", "internal/abi.NoEscape", "internal/bytealg.MakeNoZero"], unfollowed := true, recurses := true, apart := false, narrowed := true }
def FailedUptoSaid : Prop := failedUptoRow.holds Try.pinned (OpenSpec.upto failedSpec)

/-- 'treeheadkeep.Sound', WHERE WHAT IT READS IS OF BULK AT MOST 1048576: true; the input reads as it did. -/
def soundUptoRow : OpenClaim := { program := "ytkhnjipjbhcgdab", sum := "781b321d8083eec5baa908c6cd17af9331d6a32c2d1ec874ebc48f94609e9d69", func := "treehead/treeheadkeep.Sound", spec := "sound", inPlace := ["internal/bytealg.IndexByteString", "internal/abi.NoEscape", "internal/bytealg.MakeNoZero"], unfollowed := true, recurses := true, apart := false, narrowed := true }
def SoundUptoSaid : Prop := soundUptoRow.holds Try.pinned (OpenSpec.upto soundSpec)

end Rows
end Go.Proofs.Ytkhnjipjbhcgdab
