import Derived.Test.YtkhnjipjbhcgdaaGreatPlainP
/-
  THE PLAIN MATHEMATICS: what a path folds to, and the texts of which sums are taken on the way.
-/
namespace Go.Proofs.YtkhnjipjbhcgdaaGreat.Pl

/-- A byte that is a digit. -/
def digB (c : UInt8) : Bool := (decide (48 ≤ c.toNat) && decide (c.toNat ≤ 57)) || (decide (97 ≤ c.toNat) && decide (c.toNat ≤ 102))
/-- Is a text a sum? -/
def isSumB (s : ByteArray) : Bool := decide (s.size = 4) && s.data.toList.all digB
/-- May an answer's numbers, and its leaf, be? -/
def ansB (size index : Int) (leaf : ByteArray) : Bool := decide (1 ≤ size) && decide (size ≤ 40) && decide (0 ≤ index) && decide (index < size) && decide (leaf.size ≤ 30)

def textL (leaf : ByteArray) : ByteArray := ⟨#[76]⟩ ++ leaf
def textN (a b : ByteArray) : ByteArray := ⟨#[78]⟩ ++ a ++ b
def sumB (s : ByteArray) : ByteArray := sum s.data.toList

/-- What a leaf, an index and n fold to by a path: the texts in their order, and the root. -/
def leafF : Nat → ByteArray → Nat → Nat → List ByteArray → Option (List ByteArray × ByteArray)
  | 0, _, _, _, _ => none
  | f + 1, leaf, i, n, p =>
    if n ≤ 1 then (if p = [] then some ([textL leaf], sumB (textL leaf)) else none)
    else match p.getLast? with
      | none => none
      | some l =>
        if isSumB l = false then none
        else if i < half n then
          match leafF f leaf i (half n) p.dropLast with
          | none => none
          | some (t, r) => some (t ++ [textN r l], sumB (textN r l))
        else
          match leafF f leaf (i - half n) (n - half n) p.dropLast with
          | none => none
          | some (t, r) => some (t ++ [textN l r], sumB (textN l r))
def leafT (leaf : ByteArray) (i n : Nat) (p : List ByteArray) : Option (List ByteArray × ByteArray) := leafF n leaf i n p

/-- What the old root, m and n come to by a path: the texts, and the two roots. -/
def bothF : Nat → ByteArray → Nat → Nat → Bool → List ByteArray → Option (List ByteArray × ByteArray × ByteArray)
  | 0, _, _, _, _, _ => none
  | f + 1, old, m, n, whole, p =>
    if m = n ∧ whole = true then (if p = [] then some ([], old, old) else none)
    else match p.getLast? with
      | none => none
      | some l =>
        if isSumB l = false then none
        else if m = n then (if p.length = 1 then some ([], l, l) else none)
        else if m ≤ half n then
          match bothF f old m (half n) whole p.dropLast with
          | none => none
          | some (t, a, b) => some (t ++ [textN b l], a, sumB (textN b l))
        else
          match bothF f old (m - half n) (n - half n) false p.dropLast with
          | none => none
          | some (t, a, b) => some (t ++ [textN l a, textN l b], sumB (textN l a), sumB (textN l b))
def bothT (old : ByteArray) (m n : Nat) (whole : Bool) (p : List ByteArray) : Option (List ByteArray × ByteArray × ByteArray) := bothF n old m n whole p

theorem leafF_eq : ∀ (f : Nat) (leaf : ByteArray) (i n : Nat) (p : List ByteArray), 1 ≤ n → n ≤ f → leafF f leaf i n p = leafT leaf i n p := by
  intro f
  induction f using Nat.strongRecOn with
  | ind f ih =>
    intro leaf i n p h1 h
    unfold leafT
    match f, n with
    | 0, n => omega
    | f + 1, 0 => omega
    | f + 1, n + 1 =>
      simp only [leafF]
      by_cases hn : n + 1 ≤ 1
      · simp [hn]
      · have hp := half_pos (n + 1)
        have hl := half_lt (n + 1) (by omega)
        simp only [if_neg hn]
        rw [ih f (by omega) leaf i (half (n + 1)) _ hp (by omega), ih f (by omega) leaf (i - half (n + 1)) (n + 1 - half (n + 1)) _ (by omega) (by omega), ih n (by omega) leaf i (half (n + 1)) _ hp (by omega), ih n (by omega) leaf (i - half (n + 1)) (n + 1 - half (n + 1)) _ (by omega) (by omega)]
theorem bothF_eq : ∀ (f : Nat) (old : ByteArray) (m n : Nat) (b : Bool) (p : List ByteArray), 1 ≤ m → m ≤ n → n ≤ f → bothF f old m n b p = bothT old m n b p := by
  intro f
  induction f using Nat.strongRecOn with
  | ind f ih =>
    intro old m n b p h0 h1 h
    unfold bothT
    match f, n with
    | 0, n => omega
    | f + 1, 0 => omega
    | f + 1, n + 1 =>
      simp only [bothF]
      by_cases hmn : m = n + 1
      · simp [hmn]
      · have hp := half_pos (n + 1)
        have hl := half_lt (n + 1) (by omega)
        have hne : ¬ (m = n + 1 ∧ b = true) := fun hh => hmn hh.1
        simp only [if_neg hne, if_neg hmn]
        by_cases hm : m ≤ half (n + 1)
        · simp only [if_pos hm]
          rw [ih f (by omega) old m (half (n + 1)) b _ h0 hm (by omega), ih n (by omega) old m (half (n + 1)) b _ h0 hm (by omega)]
        · simp only [if_neg hm]
          rw [ih f (by omega) old (m - half (n + 1)) (n + 1 - half (n + 1)) false _ (by omega) (by omega) (by omega), ih n (by omega) old (m - half (n + 1)) (n + 1 - half (n + 1)) false _ (by omega) (by omega) (by omega)]

theorem leafT_one (leaf : ByteArray) (i : Nat) (p : List ByteArray) : leafT leaf i 1 p = if p = [] then some ([textL leaf], sumB (textL leaf)) else none := by
  simp [leafT, leafF]
theorem leafT_more (leaf : ByteArray) (i n : Nat) (p : List ByteArray) (h : 2 ≤ n) : leafT leaf i n p =
    match p.getLast? with
      | none => none
      | some l =>
        if isSumB l = false then none
        else if i < half n then
          match leafT leaf i (half n) p.dropLast with
          | none => none
          | some (t, r) => some (t ++ [textN r l], sumB (textN r l))
        else
          match leafT leaf (i - half n) (n - half n) p.dropLast with
          | none => none
          | some (t, r) => some (t ++ [textN l r], sumB (textN l r)) := by
  have hp := half_pos n
  have hl := half_lt n h
  obtain ⟨k, rfl⟩ : ∃ k, n = k + 2 := ⟨n - 2, by omega⟩
  rw [← leafF_eq (k + 1) leaf i (half (k + 2)) _ hp (by omega), ← leafF_eq (k + 1) leaf (i - half (k + 2)) (k + 2 - half (k + 2)) _ (by omega) (by omega)]
  conv => lhs; unfold leafT; unfold leafF
  rw [if_neg (by omega)]
theorem bothT_whole (old : ByteArray) (n : Nat) (p : List ByteArray) (h : 1 ≤ n) : bothT old n n true p = if p = [] then some ([], old, old) else none := by
  obtain ⟨k, rfl⟩ : ∃ k, n = k + 1 := ⟨n - 1, by omega⟩
  simp [bothT, bothF]
theorem bothT_part (old : ByteArray) (n : Nat) (p : List ByteArray) (h : 1 ≤ n) : bothT old n n false p =
    match p.getLast? with
      | none => none
      | some l => if isSumB l = false then none else if p.length = 1 then some ([], l, l) else none := by
  obtain ⟨k, rfl⟩ : ∃ k, n = k + 1 := ⟨n - 1, by omega⟩
  simp [bothT, bothF]
theorem bothT_more (old : ByteArray) (m n : Nat) (b : Bool) (p : List ByteArray) (h1 : 1 ≤ m) (h : m < n) : bothT old m n b p =
    match p.getLast? with
      | none => none
      | some l =>
        if isSumB l = false then none
        else if m ≤ half n then
          match bothT old m (half n) b p.dropLast with
          | none => none
          | some (t, a, b) => some (t ++ [textN b l], a, sumB (textN b l))
        else
          match bothT old (m - half n) (n - half n) false p.dropLast with
          | none => none
          | some (t, a, b) => some (t ++ [textN l a, textN l b], sumB (textN l a), sumB (textN l b)) := by
  have hp := half_pos n
  have hl := half_lt n (by omega)
  obtain ⟨k, rfl⟩ : ∃ k, n = k + 2 := ⟨n - 2, by omega⟩
  have hne : ¬ (m = k + 2 ∧ b = true) := fun hh => by omega
  conv => lhs; unfold bothT; unfold bothF
  rw [if_neg hne]
  have hmn : ¬ m = k + 2 := by omega
  simp only [if_neg hmn]
  by_cases hm : m ≤ half (k + 2)
  · simp only [if_pos hm]
    rw [bothF_eq (k + 1) old m (half (k + 2)) b _ h1 hm (by omega)]
  · simp only [if_neg hm]
    rw [bothF_eq (k + 1) old (m - half (k + 2)) (k + 2 - half (k + 2)) false _ (by omega) (by omega) (by omega)]
end Go.Proofs.YtkhnjipjbhcgdaaGreat.Pl

/-
  THE PLAIN MATHEMATICS: powers, keys, signed heads.
-/
namespace Go.Proofs.YtkhnjipjbhcgdaaGreat.Pl

/-- b to the power n, modulo 2039, one factor after the other. -/
def powM (b : Nat) : Nat → Nat
  | 0 => 1
  | n + 1 => powM b n * b % 2039
theorem powM_lt (b n : Nat) : powM b n < 2039 := by
  cases n with
  | zero => show 1 < 2039; omega
  | succ n => unfold powM; omega
/-- Is a number the key of a secret? -/
def keyB (key : Int) : Bool := (List.range 1018).any fun i => decide ((powM 4 (i + 1) : Int) = key)
theorem keyB_at {key : Int} (k : Nat) (h1 : 1 ≤ k) (h : k ≤ 1018) (he : (powM 4 k : Int) = key) : keyB key = true := by
  unfold keyB
  rw [List.any_eq_true]
  exact ⟨k - 1, List.mem_range.2 (by omega), by rw [show k - 1 + 1 = k by omega]; exact decide_eq_true he⟩
theorem keyB_none {key : Int} (h : ∀ k, 1 ≤ k → k ≤ 1018 → ¬ (powM 4 k : Int) = key) : keyB key = false := by
  cases hb : keyB key with
  | false => rfl
  | true =>
    unfold keyB at hb
    rw [List.any_eq_true] at hb
    obtain ⟨i, hi, hd⟩ := hb
    exact absurd (of_decide_eq_true hd) (h (i + 1) (by omega) (by have := List.mem_range.1 hi; omega))
theorem keyB_yes {key : Int} (h : keyB key = true) : ∃ k, 1 ≤ k ∧ k ≤ 1018 ∧ (powM 4 k : Int) = key := by
  unfold keyB at h
  rw [List.any_eq_true] at h
  obtain ⟨i, hi, hd⟩ := h
  exact ⟨i + 1, by omega, by have := List.mem_range.1 hi; omega, of_decide_eq_true hd⟩

/-- A number in two bytes, the lowest first. -/
def two (n : Nat) : ByteArray := ⟨#[UInt8.ofNat (n % 256), UInt8.ofNat (n / 256)]⟩
theorem two_size (n : Nat) : (two n).size = 2 := rfl
/-- The text that is signed. -/
def saidText (key r size : Nat) (root : ByteArray) : ByteArray := ⟨#[83]⟩ ++ two r ++ two key ++ two size ++ root
/-- What is signed. -/
def said (key r size : Nat) (root : ByteArray) : Nat := num (saidText key r size root).data.toList % 1019
theorem said_lt (key r size : Nat) (root : ByteArray) : said key r size root < 1019 := by unfold said; omega
/-- The nonce less the secret, so many times, modulo 1019. -/
def less (secret nonce : Nat) : Nat → Nat
  | 0 => nonce
  | c + 1 => (less secret nonce c + 1019 - secret) % 1019
theorem less_lt (secret nonce c : Nat) (h : nonce < 1019) : less secret nonce c < 1019 := by
  cases c with
  | zero => exact h
  | succ c => unfold less; omega
/-- A signed head. -/
def headText (size : Nat) (root : ByteArray) (c s : Nat) : ByteArray := ⟨#[72]⟩ ++ two size ++ root ++ two c ++ two s
def signT (secret nonce size : Nat) (root : ByteArray) : ByteArray :=
  headText size root (said (powM 4 secret) (powM 4 nonce) size root) (less secret nonce (said (powM 4 secret) (powM 4 nonce) size root))
/-- May a head be signed so? -/
def signB (secret nonce size : Int) (root : ByteArray) : Bool :=
  decide (1 ≤ secret) && decide (secret ≤ 1018) && decide (1 ≤ nonce) && decide (nonce ≤ 1018) && decide (0 ≤ size) && decide (size ≤ 40) && isSumB root

/-- The k-th byte. -/
def byt (b : ByteArray) (k : Nat) : Nat := (b.data.toList.getD k 0).toNat
theorem byt_eq (b : ByteArray) (k : Nat) (h : k < b.size) : b[k].toNat = byt b k := by
  unfold byt
  rw [List.getD_eq_getElem?_getD, List.getElem?_eq_getElem (by simpa using h)]
  rfl
theorem byt_lt (b : ByteArray) (k : Nat) : byt b k < 256 := by unfold byt; exact UInt8.toNat_lt _
def hSize (b : ByteArray) : Nat := byt b 1 + 256 * byt b 2
def hRoot (b : ByteArray) : ByteArray := b.extract 3 7
def hC (b : ByteArray) : Nat := byt b 7 + 256 * byt b 8
def hS (b : ByteArray) : Nat := byt b 9 + 256 * byt b 10
/-- Are bytes a signed head? -/
def headB (b : ByteArray) : Bool := decide (b.size = 11) && (decide (byt b 0 = 72) && decide (hSize b ≤ 40) && isSumB (hRoot b) && decide (hC b < 1019) && decide (hS b < 1019))
/-- Is a signature right? -/
def rightB (key : Nat) (b : ByteArray) : Bool := decide (said key (powM 4 (hS b) * powM key (hC b) % 2039) (hSize b) (hRoot b) = hC b)
end Go.Proofs.YtkhnjipjbhcgdaaGreat.Pl
