/-
  THE PLAIN MATHEMATICS: what a path folds to, and the texts of which sums are taken on the way.
-/
import Derived.Test.YtkhnjipjbhcgdabPlainP
namespace Go.Proofs.Ytkhnjipjbhcgdab.Pl

/-- A byte that is a digit. -/
def digB (c : UInt8) : Bool := (decide (48 ≤ c.toNat) && decide (c.toNat ≤ 57)) || (decide (97 ≤ c.toNat) && decide (c.toNat ≤ 102))
/-- Is a text a sum? -/
def isSumB (s : ByteArray) : Bool := decide (s.size = 4) && s.data.toList.all digB
/-- May an answer's numbers, and its leaf, be? -/
def ansB (size index : Int) (leaf : ByteArray) : Bool := decide (1 ≤ size) && decide (size ≤ 40) && decide (0 ≤ index) && decide (index < size) && decide (leaf.size ≤ 30)

def textL (leaf : ByteArray) : ByteArray := ⟨#[76]⟩ ++ leaf
def textN (a b : ByteArray) : ByteArray := ⟨#[78]⟩ ++ a ++ b
def sumB (s : ByteArray) : ByteArray := sum s.data.toList

/-- What a leaf, an index and n fold to by a path: the texts in their order, and the root. -/
def leafF : Nat → ByteArray → Nat → Nat → List ByteArray → Option (List ByteArray × ByteArray)
  | 0, _, _, _, _ => none
  | f + 1, leaf, i, n, p =>
    if n ≤ 1 then (if p = [] then some ([textL leaf], sumB (textL leaf)) else none)
    else match p.getLast? with
      | none => none
      | some l =>
        if isSumB l = false then none
        else if i < half n then
          match leafF f leaf i (half n) p.dropLast with
          | none => none
          | some (t, r) => some (t ++ [textN r l], sumB (textN r l))
        else
          match leafF f leaf (i - half n) (n - half n) p.dropLast with
          | none => none
          | some (t, r) => some (t ++ [textN l r], sumB (textN l r))
def leafT (leaf : ByteArray) (i n : Nat) (p : List ByteArray) : Option (List ByteArray × ByteArray) := leafF n leaf i n p

/-- What the old root, m and n come to by a path: the texts, and the two roots. -/
def bothF : Nat → ByteArray → Nat → Nat → Bool → List ByteArray → Option (List ByteArray × ByteArray × ByteArray)
  | 0, _, _, _, _, _ => none
  | f + 1, old, m, n, whole, p =>
    if m = n ∧ whole = true then (if p = [] then some ([], old, old) else none)
    else match p.getLast? with
      | none => none
      | some l =>
        if isSumB l = false then none
        else if m = n then (if p.length = 1 then some ([], l, l) else none)
        else if m ≤ half n then
          match bothF f old m (half n) whole p.dropLast with
          | none => none
          | some (t, a, b) => some (t ++ [textN b l], a, sumB (textN b l))
        else
          match bothF f old (m - half n) (n - half n) false p.dropLast with
          | none => none
          | some (t, a, b) => some (t ++ [textN l a, textN l b], sumB (textN l a), sumB (textN l b))
def bothT (old : ByteArray) (m n : Nat) (whole : Bool) (p : List ByteArray) : Option (List ByteArray × ByteArray × ByteArray) := bothF n old m n whole p

theorem leafF_eq : ∀ (f : Nat) (leaf : ByteArray) (i n : Nat) (p : List ByteArray), 1 ≤ n → n ≤ f → leafF f leaf i n p = leafT leaf i n p := by
  intro f
  induction f using Nat.strongRecOn with
  | ind f ih =>
    intro leaf i n p h1 h
    unfold leafT
    match f, n with
    | 0, n => omega
    | f + 1, 0 => omega
    | f + 1, n + 1 =>
      simp only [leafF]
      by_cases hn : n + 1 ≤ 1
      · simp [hn]
      · have hp := half_pos (n + 1)
        have hl := half_lt (n + 1) (by omega)
        simp only [if_neg hn]
        rw [ih f (by omega) leaf i (half (n + 1)) _ hp (by omega), ih f (by omega) leaf (i - half (n + 1)) (n + 1 - half (n + 1)) _ (by omega) (by omega), ih n (by omega) leaf i (half (n + 1)) _ hp (by omega), ih n (by omega) leaf (i - half (n + 1)) (n + 1 - half (n + 1)) _ (by omega) (by omega)]
theorem bothF_eq : ∀ (f : Nat) (old : ByteArray) (m n : Nat) (b : Bool) (p : List ByteArray), 1 ≤ m → m ≤ n → n ≤ f → bothF f old m n b p = bothT old m n b p := by
  intro f
  induction f using Nat.strongRecOn with
  | ind f ih =>
    intro old m n b p h0 h1 h
    unfold bothT
    match f, n with
    | 0, n => omega
    | f + 1, 0 => omega
    | f + 1, n + 1 =>
      simp only [bothF]
      by_cases hmn : m = n + 1
      · simp [hmn]
      · have hp := half_pos (n + 1)
        have hl := half_lt (n + 1) (by omega)
        have hne : ¬ (m = n + 1 ∧ b = true) := fun hh => hmn hh.1
        simp only [if_neg hne, if_neg hmn]
        by_cases hm : m ≤ half (n + 1)
        · simp only [if_pos hm]
          rw [ih f (by omega) old m (half (n + 1)) b _ h0 hm (by omega), ih n (by omega) old m (half (n + 1)) b _ h0 hm (by omega)]
        · simp only [if_neg hm]
          rw [ih f (by omega) old (m - half (n + 1)) (n + 1 - half (n + 1)) false _ (by omega) (by omega) (by omega), ih n (by omega) old (m - half (n + 1)) (n + 1 - half (n + 1)) false _ (by omega) (by omega) (by omega)]

theorem leafT_one (leaf : ByteArray) (i : Nat) (p : List ByteArray) : leafT leaf i 1 p = if p = [] then some ([textL leaf], sumB (textL leaf)) else none := by
  simp [leafT, leafF]
theorem leafT_more (leaf : ByteArray) (i n : Nat) (p : List ByteArray) (h : 2 ≤ n) : leafT leaf i n p =
    match p.getLast? with
      | none => none
      | some l =>
        if isSumB l = false then none
        else if i < half n then
          match leafT leaf i (half n) p.dropLast with
          | none => none
          | some (t, r) => some (t ++ [textN r l], sumB (textN r l))
        else
          match leafT leaf (i - half n) (n - half n) p.dropLast with
          | none => none
          | some (t, r) => some (t ++ [textN l r], sumB (textN l r)) := by
  have hp := half_pos n
  have hl := half_lt n h
  obtain ⟨k, rfl⟩ : ∃ k, n = k + 2 := ⟨n - 2, by omega⟩
  rw [← leafF_eq (k + 1) leaf i (half (k + 2)) _ hp (by omega), ← leafF_eq (k + 1) leaf (i - half (k + 2)) (k + 2 - half (k + 2)) _ (by omega) (by omega)]
  conv => lhs; unfold leafT; unfold leafF
  rw [if_neg (by omega)]
theorem bothT_whole (old : ByteArray) (n : Nat) (p : List ByteArray) (h : 1 ≤ n) : bothT old n n true p = if p = [] then some ([], old, old) else none := by
  obtain ⟨k, rfl⟩ : ∃ k, n = k + 1 := ⟨n - 1, by omega⟩
  simp [bothT, bothF]
theorem bothT_part (old : ByteArray) (n : Nat) (p : List ByteArray) (h : 1 ≤ n) : bothT old n n false p =
    match p.getLast? with
      | none => none
      | some l => if isSumB l = false then none else if p.length = 1 then some ([], l, l) else none := by
  obtain ⟨k, rfl⟩ : ∃ k, n = k + 1 := ⟨n - 1, by omega⟩
  simp [bothT, bothF]
theorem bothT_more (old : ByteArray) (m n : Nat) (b : Bool) (p : List ByteArray) (h1 : 1 ≤ m) (h : m < n) : bothT old m n b p =
    match p.getLast? with
      | none => none
      | some l =>
        if isSumB l = false then none
        else if m ≤ half n then
          match bothT old m (half n) b p.dropLast with
          | none => none
          | some (t, a, b) => some (t ++ [textN b l], a, sumB (textN b l))
        else
          match bothT old (m - half n) (n - half n) false p.dropLast with
          | none => none
          | some (t, a, b) => some (t ++ [textN l a, textN l b], sumB (textN l a), sumB (textN l b)) := by
  have hp := half_pos n
  have hl := half_lt n (by omega)
  obtain ⟨k, rfl⟩ : ∃ k, n = k + 2 := ⟨n - 2, by omega⟩
  have hne : ¬ (m = k + 2 ∧ b = true) := fun hh => by omega
  conv => lhs; unfold bothT; unfold bothF
  rw [if_neg hne]
  have hmn : ¬ m = k + 2 := by omega
  simp only [if_neg hmn]
  by_cases hm : m ≤ half (k + 2)
  · simp only [if_pos hm]
    rw [bothF_eq (k + 1) old m (half (k + 2)) b _ h1 hm (by omega)]
  · simp only [if_neg hm]
    rw [bothF_eq (k + 1) old (m - half (k + 2)) (k + 2 - half (k + 2)) false _ (by omega) (by omega) (by omega)]
end Go.Proofs.Ytkhnjipjbhcgdab.Pl
