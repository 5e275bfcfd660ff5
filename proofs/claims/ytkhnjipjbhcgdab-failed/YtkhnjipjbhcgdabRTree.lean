/-
  THE WALKS of treeheadref.root, treeheadref.Leaves, treehead.mayBeRow; treehead.Root, treeheadref.Root.
-/
import Derived.Test.YtkhnjipjbhcgdabTree
namespace Go.Proofs.Ytkhnjipjbhcgdab
open Go.RowKit

end Go.Proofs.Ytkhnjipjbhcgdab
