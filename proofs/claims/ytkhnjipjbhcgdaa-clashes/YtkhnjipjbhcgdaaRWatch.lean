/-
  THE WALKS of treeheadref.Watch and of its Watcher: Told, Holds, Update.
-/
import Derived.Test.YtkhnjipjbhcgdaaTBox
import Derived.Test.YtkhnjipjbhcgdaaROpen2
namespace Go.Proofs.Ytkhnjipjbhcgdaa
open Go.RowKit Hp

/-- What Holds is to answer. -/
def holdsE (size : Nat) (root : ByteArray) (seen closed : Bool) (n i : Int) (leaf : ByteArray) (path : List ByteArray) : Int :=
  if closed = true then 10 else if seen = false then 7 else if ¬ n = size then 9 else inclE root n i leaf path

end Go.Proofs.Ytkhnjipjbhcgdaa
