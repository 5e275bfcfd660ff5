/-
  THE PLAIN MATHEMATICS: numbers and sums of texts. It imports nothing of the translation.
-/
import Derived.WalkKit
namespace Go.Proofs.Ytkhnjipjbhcgdab.Pl

/-- One byte more. -/
def step (n : Nat) (b : UInt8) : Nat := (n * 263 + b.toNat + 1) % 65521
/-- The number of a text. -/
def num (l : List UInt8) : Nat := l.foldl step 1
/-- The texts one behind the other. -/
def cat : List ByteArray → List UInt8
  | [] => []
  | s :: r => s.data.toList ++ cat r
/-- A digit. -/
def hex (n : Nat) : UInt8 := if n % 16 < 10 then UInt8.ofNat (48 + n % 16) else UInt8.ofNat (87 + n % 16)
/-- A number in four digits. -/
def dig4 (n : Nat) : List UInt8 := [hex (n / 4096), hex (n / 256), hex (n / 16), hex n]
/-- The sum of a text. -/
def sum (l : List UInt8) : ByteArray := ⟨(dig4 (num l)).toArray⟩

theorem step_lt (n : Nat) (b : UInt8) : step n b < 65521 := by unfold step; omega
theorem num_lt (l : List UInt8) : num l < 65521 := by
  unfold num
  have h : ∀ (l : List UInt8) (n : Nat), n < 65521 → l.foldl step n < 65521 := by
    intro l
    induction l with
    | nil => intro n h; exact h
    | cons b r ih => intro n _; exact ih _ (step_lt n b)
  exact h l 1 (by omega)
theorem num_snoc (l : List UInt8) (b : UInt8) : num (l ++ [b]) = (num l * 263 + b.toNat + 1) % 65521 := by
  unfold num
  rw [List.foldl_append]
  rfl
theorem cat_append (a b : List ByteArray) : cat (a ++ b) = cat a ++ cat b := by
  induction a with
  | nil => rfl
  | cons s r ih => simp only [List.cons_append, cat, ih, List.append_assoc]
theorem take_snoc (s : ByteArray) (k : Nat) (h : k < s.size) : s.data.toList.take (k + 1) = s.data.toList.take k ++ [s[k]] := by
  rw [List.take_succ_eq_append_getElem (by simpa using h)]; rfl
theorem take_all (s : ByteArray) : s.data.toList.take s.size = s.data.toList := List.take_of_length_le (by simp)
theorem cat_take (ss : List ByteArray) (k : Nat) (h : k < ss.length) : cat (ss.take (k + 1)) = cat (ss.take k) ++ ss[k].data.toList := by
  rw [List.take_succ_eq_append_getElem h, cat_append]
  simp [cat]
end Go.Proofs.Ytkhnjipjbhcgdab.Pl
