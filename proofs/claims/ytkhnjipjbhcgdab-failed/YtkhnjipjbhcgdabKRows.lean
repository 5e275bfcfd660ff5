/-
  SMALL HELP for the walks of treeheadkeep's statements: rows laid anew, rows that came out.
-/
import Derived.Test.YtkhnjipjbhcgdabRooted
import Derived.Test.YtkhnjipjbhcgdabIncl
namespace Go.Proofs.Ytkhnjipjbhcgdab
open Go.RowKit

theorem new_root (ss : List ByteArray) (r : ByteArray) (w : World) (hl : ss.length ≤ 40) (hs : ∀ s ∈ ss, s.size ≤ 30) (he : Pl.root ss = r) :
    Calls Try.prog 24 #[.slice (some ⟨w.heap.size, 0, none⟩) ss.length ss.length] (w.alloc (.cells (ss.map Value.string).toArray 9)) fun e w' => e = .returned (.tuple #[.string r, .int .i64 0]) ∧ Below w.heap.size w w' :=
  (troot_to (some ⟨w.heap.size, 0, none⟩) ss.length ss.length ss r _ rfl (Nat.le_refl _) (by omega) (Row.lit w ss (le_max hl) (fun s h => Nat.le_trans (hs s h) (by decide))) hl hs he).mono fun e w' ⟨he, hb⟩ => ⟨he, ((Below.refl _ w).alloc (Nat.le_refl _) _).trans (hb.mono (by simp))⟩
theorem new_sum (ss : List ByteArray) (r : ByteArray) (w : World) (hl : ss.length ≤ 40) (hs : ∀ s ∈ ss, s.size ≤ maxLen) (he : Pl.sum (Pl.cat ss) = r) :
    Calls Try.prog 9 #[.slice (some ⟨w.heap.size, 0, none⟩) ss.length ss.length] (w.alloc (.cells (ss.map Value.string).toArray 9)) fun e w' => e = .returned (.string r) ∧ Below w.heap.size w w' :=
  (sum_to (some ⟨w.heap.size, 0, none⟩) ss.length ss r _ (Row.lit w ss (le_max hl) hs) he).mono fun e w' ⟨he, hb⟩ => ⟨he, ((Below.refl _ w).alloc (Nat.le_refl _) _).trans (hb.mono (by simp))⟩

theorem Own.rowOf {w : World} {B : Nat} {v : Value} {ss : List ByteArray} (h : Own w B v ss) (hne : ss ≠ []) (h4 : ∀ s ∈ ss, s.size = 4) (hl : ss.length ≤ 40) : ∃ g cap, v = .slice (some ⟨g, 0, none⟩) ss.length cap ∧ ss.length ≤ cap ∧ cap ≤ maxLen ∧ Row w (some ⟨g, 0, none⟩) ss := by
  obtain ⟨g, cap, h1, _, h2, h3, h5⟩ := h.open hne (fun s hs => by rw [h4 s hs]; decide) (le_max hl)
  exact ⟨g, cap, h1, h2, h3, h5⟩
theorem Row.cellAt {w : World} {g o : Nat} {ss : List ByteArray} (h : Row w (some ⟨g, o, none⟩) ss) (k : Nat) (hk : k < ss.length) : w.cell? ⟨g, o + k, none⟩ = some (.string ss[k]) := by
  rcases h.cell with h0 | ⟨b', o', he, _, hc⟩
  · rw [h0] at hk; cases hk
  · simp only [Option.some.injEq, Addr.mk.injEq, and_true] at he
    obtain ⟨rfl, rfl⟩ := he
    exact hc k hk

end Go.Proofs.Ytkhnjipjbhcgdab
