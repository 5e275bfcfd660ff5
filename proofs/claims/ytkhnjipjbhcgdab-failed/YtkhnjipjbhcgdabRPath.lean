/-
  THE WALKS of treeheadref.with, treeheadref.path, treeheadref.parts.
-/
import Derived.Test.YtkhnjipjbhcgdabParts
import Derived.Laws.AppendOwnNone
namespace Go.Proofs.Ytkhnjipjbhcgdab
open Go.RowKit

theorem own_len {w : World} {B : Nat} {v : Value} {ss : List ByteArray} (h : Own w B v ss) : ∃ p cap, v = .slice p ss.length cap := by
  rcases h.2 with ⟨hv, h0⟩ | ⟨g, cap, cur, hv, _⟩
  · exact ⟨none, 0, by rw [hv, h0]⟩
  · exact ⟨_, cap, hv⟩
theorem Own.mono {w : World} {B B' : Nat} {v : Value} {ss : List ByteArray} (h : Own w B v ss) (hB : B' ≤ B) : Own w B' v ss := by
  refine ⟨h.1, ?_⟩
  rcases h.2 with hn | ⟨g, cap, cur, rfl, hb, rest⟩
  · exact Or.inl hn
  · exact Or.inr ⟨g, cap, cur, rfl, Nat.le_trans hB hb, rest⟩

end Go.Proofs.Ytkhnjipjbhcgdab
