/-
  THE PLAIN MATHEMATICS: the first two texts of one sum, looked for forwards alone.
-/
import Derived.Test.YtkhnjipjbhcgdabAns3
namespace Go.Proofs.Ytkhnjipjbhcgdab.Pl

/-- The first text that has the sum of a different one behind it, and the first such one. -/
def later : List ByteArray → Option (ByteArray × ByteArray)
  | [] => none
  | s :: r => match mate r s with
    | some t => some (s, t)
    | none => later r
theorem mate_skip (A r : List ByteArray) (s : ByteArray) (hA : ∀ a ∈ A, mate (A ++ s :: r) a = none) : mate (A ++ s :: r) s = mate r s := by
  unfold mate
  rw [List.find?_append]
  have h1 : A.find? (fun t => decide (¬ s = t ∧ numB s = numB t)) = none := by
    rw [List.find?_eq_none]
    intro a ha
    have := mate_none (hA a ha) s (by simp)
    simp only [decide_eq_true_eq, not_and]
    intro hne he
    exact hne (this he.symm).symm
  have h2 : (s :: r).find? (fun t => decide (¬ s = t ∧ numB s = numB t)) = r.find? (fun t => decide (¬ s = t ∧ numB s = numB t)) := by
    rw [List.find?_cons_of_neg (by simp)]
  rw [h1, h2]
  rfl
theorem clashF_later : ∀ (S A : List ByteArray), (∀ a ∈ A, mate (A ++ S) a = none) → clashF (A ++ S) S = later S := by
  intro S
  induction S with
  | nil => intro A _; rfl
  | cons s r ih =>
    intro A hA
    have hm := mate_skip A r s hA
    unfold clashF later
    rw [List.findSome?_cons, hm]
    cases hx : mate r s with
    | some t => rfl
    | none =>
      have := ih (A ++ [s]) (by
        intro a ha
        rw [List.append_assoc, List.singleton_append]
        rcases List.mem_append.1 ha with h | h
        · exact hA a h
        · rw [List.mem_singleton.1 h, hm]
          exact hx)
      rw [List.append_assoc, List.singleton_append] at this
      exact this
theorem clashF_all (T : List ByteArray) : clashF T T = later T := by
  have := clashF_later T [] (by simp)
  simpa using this
theorem later_drop (T : List ByteArray) (k : Nat) (h : k < T.length) : later (T.drop k) = match mate (T.drop (k + 1)) T[k] with | some t => some (T[k], t) | none => later (T.drop (k + 1)) := by
  rw [List.drop_eq_getElem_cons h]
  rfl
theorem mate_drop (T : List ByteArray) (s : ByteArray) (j : Nat) (h : j < T.length) : mate (T.drop j) s = if ¬ s = T[j] ∧ numB s = numB T[j] then some T[j] else mate (T.drop (j + 1)) s := by
  rw [List.drop_eq_getElem_cons h]
  unfold mate
  rw [List.find?_cons]
  by_cases hc : ¬ s = T[j] ∧ numB s = numB T[j]
  · rw [if_pos hc, decide_eq_true hc]
  · rw [if_neg hc, decide_eq_false hc]
theorem mate_end (T : List ByteArray) (s : ByteArray) (j : Nat) (h : T.length ≤ j) : mate (T.drop j) s = none := by
  rw [List.drop_eq_nil_of_le h]
  rfl
theorem later_end (T : List ByteArray) (j : Nat) (h : T.length ≤ j) : later (T.drop j) = none := by
  rw [List.drop_eq_nil_of_le h]
  rfl
/-- What is answered. -/
def pairOf : Option (ByteArray × ByteArray) → ByteArray × ByteArray
  | some x => x
  | none => (⟨#[]⟩, ⟨#[]⟩)
end Go.Proofs.Ytkhnjipjbhcgdab.Pl
