/-
  THE PLAIN MATHEMATICS: halves and roots.
-/
import Derived.Test.YtkhnjipjbhcgdabPlain
namespace Go.Proofs.Ytkhnjipjbhcgdab.Pl

/-- The greatest power of two below n (n from 2 to 64). -/
def half (n : Nat) : Nat := if n ≤ 2 then 1 else if n ≤ 4 then 2 else if n ≤ 8 then 4 else if n ≤ 16 then 8 else if n ≤ 32 then 16 else 32
theorem half_pos (n : Nat) : 0 < half n := by unfold half; split <;> (try split) <;> (try split) <;> (try split) <;> (try split) <;> omega
theorem half_lt (n : Nat) (h : 2 ≤ n) : half n < n := by unfold half; split <;> (try split) <;> (try split) <;> (try split) <;> (try split) <;> omega
theorem half_of (n k : Nat) (hk : k = 1 ∨ k = 2 ∨ k = 4 ∨ k = 8 ∨ k = 16 ∨ k = 32) (h1 : k < n) (h2 : n ≤ 2 * k) : half n = k := by
  unfold half
  rcases hk with rfl | rfl | rfl | rfl | rfl | rfl <;> (split <;> (try split) <;> (try split) <;> (try split) <;> (try split) <;> omega)

/-- The root of a row, in at most so many steps. -/
def rootF : Nat → List ByteArray → ByteArray
  | 0, _ => sum [69]
  | f + 1, ss =>
    if ss.length = 0 then sum [69]
    else if ss.length = 1 then sum (76 :: cat ss)
    else sum (78 :: ((rootF f (ss.take (half ss.length))).data.toList ++ (rootF f (ss.drop (half ss.length))).data.toList))
/-- The root of a row. -/
def root (ss : List ByteArray) : ByteArray := rootF ss.length ss
theorem rootF_eq : ∀ (f : Nat) (ss : List ByteArray), ss.length ≤ f → rootF f ss = root ss := by
  intro f
  induction f using Nat.strongRecOn with
  | ind f ih =>
    intro ss h
    unfold root
    match f, hss : ss.length with
    | 0, 0 => rfl
    | 0, n + 1 => omega
    | f + 1, 0 => simp [rootF, hss]
    | f + 1, n + 1 =>
      simp only [rootF, hss, Nat.succ_eq_add_one]
      by_cases h1 : n + 1 = 1
      · simp [h1]
      · have hp := half_pos (n + 1)
        have hl := half_lt (n + 1) (by omega)
        have e1 : (ss.take (half (n + 1))).length = half (n + 1) := by rw [List.length_take]; omega
        have e2 : (ss.drop (half (n + 1))).length = n + 1 - half (n + 1) := by rw [List.length_drop]; omega
        rw [ih f (by omega) _ (by omega), ih f (by omega) _ (by omega), ih n (by omega) _ (by omega), ih n (by omega) _ (by omega)]
theorem root_zero : root [] = sum [69] := rfl
theorem root_one (ss : List ByteArray) (h : ss.length = 1) : root ss = sum (76 :: cat ss) := by
  unfold root
  rw [h]
  simp [rootF, h]
theorem root_more (ss : List ByteArray) (h : 2 ≤ ss.length) : root ss = sum (78 :: ((root (ss.take (half ss.length))).data.toList ++ (root (ss.drop (half ss.length))).data.toList)) := by
  have hp := half_pos ss.length
  have hl := half_lt ss.length h
  obtain ⟨n, hn⟩ : ∃ n, ss.length = n + 2 := ⟨ss.length - 2, by omega⟩
  have e1 : (ss.take (half ss.length)).length = half ss.length := by rw [List.length_take]; omega
  have e2 : (ss.drop (half ss.length)).length = ss.length - half ss.length := by rw [List.length_drop]
  rw [← rootF_eq (n + 1) (ss.take (half ss.length)) (by omega), ← rootF_eq (n + 1) (ss.drop (half ss.length)) (by omega)]
  unfold root
  rw [hn]
  simp [rootF, hn]
theorem root_size (ss : List ByteArray) : (root ss).size = 4 := by
  unfold root
  cases ss.length with
  | zero => rfl
  | succ n =>
    unfold rootF
    split
    · rfl
    · split <;> rfl
end Go.Proofs.Ytkhnjipjbhcgdab.Pl
