import Derived.Test.YtkhnjipjbhcgdaaGreatAns3
import Derived.Test.YtkhnjipjbhcgdaaGreatOpen2
import Derived.Test.YtkhnjipjbhcgdaaGreatTExt2
import Derived.Test.YtkhnjipjbhcgdaaGreatPlainX
import Derived.Deep.DeepCutAuto
import Derived.BigRegion
/-
  THE PLAIN MATHEMATICS: the first two texts of one sum, looked for forwards alone.
-/
namespace Go.Proofs.YtkhnjipjbhcgdaaGreat.Pl

/-- The first text that has the sum of a different one behind it, and the first such one. -/
def later : List ByteArray → Option (ByteArray × ByteArray)
  | [] => none
  | s :: r => match mate r s with
    | some t => some (s, t)
    | none => later r
theorem mate_skip (A r : List ByteArray) (s : ByteArray) (hA : ∀ a ∈ A, mate (A ++ s :: r) a = none) : mate (A ++ s :: r) s = mate r s := by
  unfold mate
  rw [List.find?_append]
  have h1 : A.find? (fun t => decide (¬ s = t ∧ numB s = numB t)) = none := by
    rw [List.find?_eq_none]
    intro a ha
    have := mate_none (hA a ha) s (by simp)
    simp only [decide_eq_true_eq, not_and]
    intro hne he
    exact hne (this he.symm).symm
  have h2 : (s :: r).find? (fun t => decide (¬ s = t ∧ numB s = numB t)) = r.find? (fun t => decide (¬ s = t ∧ numB s = numB t)) := by
    rw [List.find?_cons_of_neg (by simp)]
  rw [h1, h2]
  rfl
theorem clashF_later : ∀ (S A : List ByteArray), (∀ a ∈ A, mate (A ++ S) a = none) → clashF (A ++ S) S = later S := by
  intro S
  induction S with
  | nil => intro A _; rfl
  | cons s r ih =>
    intro A hA
    have hm := mate_skip A r s hA
    unfold clashF later
    rw [List.findSome?_cons, hm]
    cases hx : mate r s with
    | some t => rfl
    | none =>
      have := ih (A ++ [s]) (by
        intro a ha
        rw [List.append_assoc, List.singleton_append]
        rcases List.mem_append.1 ha with h | h
        · exact hA a h
        · rw [List.mem_singleton.1 h, hm]
          exact hx)
      rw [List.append_assoc, List.singleton_append] at this
      exact this
theorem clashF_all (T : List ByteArray) : clashF T T = later T := by
  have := clashF_later T [] (by simp)
  simpa using this
theorem later_drop (T : List ByteArray) (k : Nat) (h : k < T.length) : later (T.drop k) = match mate (T.drop (k + 1)) T[k] with | some t => some (T[k], t) | none => later (T.drop (k + 1)) := by
  rw [List.drop_eq_getElem_cons h]
  rfl
theorem mate_drop (T : List ByteArray) (s : ByteArray) (j : Nat) (h : j < T.length) : mate (T.drop j) s = if ¬ s = T[j] ∧ numB s = numB T[j] then some T[j] else mate (T.drop (j + 1)) s := by
  rw [List.drop_eq_getElem_cons h]
  unfold mate
  rw [List.find?_cons]
  by_cases hc : ¬ s = T[j] ∧ numB s = numB T[j]
  · rw [if_pos hc, decide_eq_true hc]
  · rw [if_neg hc, decide_eq_false hc]
theorem mate_end (T : List ByteArray) (s : ByteArray) (j : Nat) (h : T.length ≤ j) : mate (T.drop j) s = none := by
  rw [List.drop_eq_nil_of_le h]
  rfl
theorem later_end (T : List ByteArray) (j : Nat) (h : T.length ≤ j) : later (T.drop j) = none := by
  rw [List.drop_eq_nil_of_le h]
  rfl
/-- What is answered. -/
def pairOf : Option (ByteArray × ByteArray) → ByteArray × ByteArray
  | some x => x
  | none => (⟨#[]⟩, ⟨#[]⟩)
end Go.Proofs.YtkhnjipjbhcgdaaGreat.Pl

/-
  THE WALK of sums.Clash.
-/
namespace Go.Proofs.YtkhnjipjbhcgdaaGreat
open Go.RowKit

theorem bytes_ne2 {a b : ByteArray} (h : ¬ a = b) : (a.toList == b.toList) = false := by
  rw [beq_eq_false_iff_ne]
  intro he
  apply h
  have h1 : a.data.toList = b.data.toList := by rwa [Go.ByteArray.toList_eq, Go.ByteArray.toList_eq] at he
  exact ByteArray.ext (Array.ext' h1)
/-- sums.Number of one text, laid anew. -/
theorem num_one (s : ByteArray) (w : World) (hs : s.size ≤ maxLen) :
    Calls Tryz.prog 83 #[.slice (some ⟨w.heap.size, 0, none⟩) 1 1] (w.alloc (.cells #[.string s] 9)) fun e w' => e = .returned (.int .i64 (Pl.numB s : Nat)) ∧ w' = w.alloc (.cells #[.string s] 9) := by
  have h := number_any (some ⟨w.heap.size, 0, none⟩) 1 [s] (w.alloc (.cells #[.string s] 9)) (Hp.row_lit w [s] (by simp [maxLen]) (by intro x hx; rw [List.mem_singleton.1 hx]; exact hs))
  have hc : Pl.cat [s] = s.data.toList := by simp [Pl.cat]
  rw [hc] at h
  exact h

/-- The same, behind the other text. -/
theorem num_two (t s : ByteArray) (w : World) (hs : s.size ≤ maxLen) :
    Calls Tryz.prog 83 #[.slice (some ⟨w.heap.size + 1, 0, none⟩) 1 1] ((w.alloc (.cells #[.string t] 9)).alloc (.cells #[.string s] 9)) fun e w' => e = .returned (.int .i64 (Pl.numB s : Nat)) ∧ w' = (w.alloc (.cells #[.string t] 9)).alloc (.cells #[.string s] 9) := by
  have h := num_one s (w.alloc (.cells #[.string t] 9)) hs
  rwa [show (w.alloc (.cells #[.string t] 9)).heap.size = w.heap.size + 1 by simp] at h
theorem num_lt (s : ByteArray) : Pl.numB s < 65521 := Pl.num_lt _

end Go.Proofs.YtkhnjipjbhcgdaaGreat

/-
  THE WALKS of treehead.foldAll.
-/
namespace Go.Proofs.YtkhnjipjbhcgdaaGreat
open Go.RowKit Hp

theorem Box.new2 (w : World) (o : Obj) (t : TypeId) (l : List Value) : Box ((w.alloc o).alloc (.cells l.toArray t)) (w.heap.size + 1) t l := by
  have h := Box.new (w.alloc o) t l
  rwa [show (w.alloc o).heap.size = w.heap.size + 1 by simp] at h
def sel3 {α : Type} (a b c : α) : Nat → α
  | 0 => a
  | 1 => b
  | _ => c
def cum3 (a b c : List ByteArray) : Nat → List ByteArray
  | 0 => []
  | 1 => a
  | 2 => a ++ b
  | _ => a ++ b ++ c
end Go.Proofs.YtkhnjipjbhcgdaaGreat
