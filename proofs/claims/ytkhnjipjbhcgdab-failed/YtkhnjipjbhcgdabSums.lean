/-
  THE WALK of treeheadlaw.Sums.
-/
import Derived.Test.YtkhnjipjbhcgdabSum
import Derived.Test.YtkhnjipjbhcgdabHand
namespace Go.Proofs.Ytkhnjipjbhcgdab
open Go.RowKit

/-- The texts joined. -/
def catB (ss : List ByteArray) : ByteArray := ⟨(Pl.cat ss).toArray⟩
theorem catB_toList (ss : List ByteArray) : (catB ss).data.toList = Pl.cat ss := by simp [catB]
theorem catB_size (ss : List ByteArray) : (catB ss).size = (Pl.cat ss).length := by simp [catB, ByteArray.size]
theorem catB_take (ss : List ByteArray) (k : Nat) (h : k < ss.length) : catB (ss.take (k + 1)) = catB (ss.take k) ++ ss[k] := by
  apply ByteArray.ext
  simp [catB, Pl.cat_take ss k h, ByteArray.data_append]
theorem cat_take_le (ss : List ByteArray) (k : Nat) : (Pl.cat (ss.take k)).length ≤ (Pl.cat ss).length := by
  have h := congrArg List.length (Pl.cat_append (ss.take k) (ss.drop k))
  rw [List.take_append_drop, List.length_append] at h
  omega

theorem Row.grow {B : Nat} {w w' : World} {p : Option Addr} {ss : List ByteArray} (hr : Row w p ss) (h : Below B w w') (hB : w.heap.size ≤ B) : Row w' p ss := by
  refine ⟨hr.len, hr.size, ?_⟩
  rcases hr.cell with h0 | ⟨b, o, rfl, hb, hc⟩
  · exact Or.inl h0
  · exact Or.inr ⟨b, o, rfl, by have := h.size; omega, fun i hi => by rw [h.cell (p := ⟨b, o + i, none⟩) (show b < B by omega)]; exact hc i hi⟩
theorem Row.new (w : World) (ss : List ByteArray) (hl : ss.length ≤ maxLen) (hs : ∀ s ∈ ss, s.size ≤ maxLen) : Row (w.alloc (.cells (rowOf ss 8).toArray 9)) (some ⟨w.heap.size, 0, none⟩) ss := by
  refine ⟨hl, hs, Or.inr ⟨w.heap.size, 0, rfl, by simp, fun i hi => ?_⟩⟩
  rw [Nat.zero_add, World.cell?_alloc_mark, List.getElem?_toArray]
  exact rowOf_at ss i hi

theorem Row.ne {w : World} {p : Option Addr} {ss : List ByteArray} {B : Nat} (hr : Row w p ss) (hB : w.heap.size ≤ B) : ∀ b o, ss ≠ [] → p = some ⟨b, o, none⟩ → b ≠ B := by
  intro b o hs he
  rcases hr.cell with h0 | ⟨b', o', h1, hb', _⟩
  · exact absurd h0 hs
  · rw [he] at h1
    simp at h1
    omega

theorem row_nil (w : World) : Row w none [] := ⟨by simp, by simp, Or.inl rfl⟩

end Go.Proofs.Ytkhnjipjbhcgdab
