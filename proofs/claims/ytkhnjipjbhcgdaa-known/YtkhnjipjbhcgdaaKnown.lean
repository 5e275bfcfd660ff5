/-
  THE WALK of treeheadkeep.Known.
-/
import Derived.Test.YtkhnjipjbhcgdaaKnown1
namespace Go.Proofs.Ytkhnjipjbhcgdaa
open Go.RowKit

theorem known_walk (c : Int) (w : World) (h : Fits c) : Calls Try.prog 10 #[.int .i64 c] w fun e w' => e = .returned (.bool true) ∧ Below w.heap.size w w' := by
  have h1 := pickOf_nonneg c 3 (by omega)
  have h2 := pickOf_lt c 3 (by omega)
  rcases (show pickOf c 3 = 0 ∨ pickOf c 3 = 1 ∨ pickOf c 3 = 2 by omega) with h0 | h0 | h0
  · exact known_0 c w h h0
  · exact known_1 c w h h0
  · exact known_2 c w h h0

end Go.Proofs.Ytkhnjipjbhcgdaa
