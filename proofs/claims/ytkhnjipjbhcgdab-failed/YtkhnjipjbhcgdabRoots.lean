/-
  THE WALKS of treeheadlaw.three, treeheadlaw.rooted, treeheadlaw.Roots.
-/
import Derived.Test.YtkhnjipjbhcgdabLeaves
namespace Go.Proofs.Ytkhnjipjbhcgdab
open Go.RowKit

def abc : List ByteArray := [⟨#[97]⟩, ⟨#[98]⟩, ⟨#[99]⟩]
theorem abc_ok : okB abc = true := by decide
theorem abc_sizes : ∀ s ∈ abc, s.size ≤ maxLen := lit3 (by decide) (by decide) (by decide)

theorem IsRow.grow {w w' : World} {v : Value} {ss : List ByteArray} {B : Nat} (h : IsRow w v ss) (hb : Below B w w') (hB : w.heap.size ≤ B) : IsRow w' v ss := by
  rcases h with h | ⟨a, cap, rfl, hc, hm, hr⟩
  · exact Or.inl h
  · exact Or.inr ⟨a, cap, rfl, hc, hm, hr.grow hb hB⟩
end Go.Proofs.Ytkhnjipjbhcgdab
