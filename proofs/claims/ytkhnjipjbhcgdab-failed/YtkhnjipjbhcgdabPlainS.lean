/-
  THE PLAIN MATHEMATICS: powers, keys, signed heads.
-/
import Derived.Test.YtkhnjipjbhcgdabPlainF
namespace Go.Proofs.Ytkhnjipjbhcgdab.Pl

/-- b to the power n, modulo 2039, one factor after the other. -/
def powM (b : Nat) : Nat → Nat
  | 0 => 1
  | n + 1 => powM b n * b % 2039
theorem powM_lt (b n : Nat) : powM b n < 2039 := by
  cases n with
  | zero => show 1 < 2039; omega
  | succ n => unfold powM; omega
/-- Is a number the key of a secret? -/
def keyB (key : Int) : Bool := (List.range 1018).any fun i => decide ((powM 4 (i + 1) : Int) = key)
theorem keyB_at {key : Int} (k : Nat) (h1 : 1 ≤ k) (h : k ≤ 1018) (he : (powM 4 k : Int) = key) : keyB key = true := by
  unfold keyB
  rw [List.any_eq_true]
  exact ⟨k - 1, List.mem_range.2 (by omega), by rw [show k - 1 + 1 = k by omega]; exact decide_eq_true he⟩
theorem keyB_none {key : Int} (h : ∀ k, 1 ≤ k → k ≤ 1018 → ¬ (powM 4 k : Int) = key) : keyB key = false := by
  cases hb : keyB key with
  | false => rfl
  | true =>
    unfold keyB at hb
    rw [List.any_eq_true] at hb
    obtain ⟨i, hi, hd⟩ := hb
    exact absurd (of_decide_eq_true hd) (h (i + 1) (by omega) (by have := List.mem_range.1 hi; omega))
theorem keyB_yes {key : Int} (h : keyB key = true) : ∃ k, 1 ≤ k ∧ k ≤ 1018 ∧ (powM 4 k : Int) = key := by
  unfold keyB at h
  rw [List.any_eq_true] at h
  obtain ⟨i, hi, hd⟩ := h
  exact ⟨i + 1, by omega, by have := List.mem_range.1 hi; omega, of_decide_eq_true hd⟩

/-- A number in two bytes, the lowest first. -/
def two (n : Nat) : ByteArray := ⟨#[UInt8.ofNat (n % 256), UInt8.ofNat (n / 256)]⟩
theorem two_size (n : Nat) : (two n).size = 2 := rfl
/-- The text that is signed. -/
def saidText (key r size : Nat) (root : ByteArray) : ByteArray := ⟨#[83]⟩ ++ two r ++ two key ++ two size ++ root
/-- What is signed. -/
def said (key r size : Nat) (root : ByteArray) : Nat := num (saidText key r size root).data.toList % 1019
theorem said_lt (key r size : Nat) (root : ByteArray) : said key r size root < 1019 := by unfold said; omega
/-- The nonce less the secret, so many times, modulo 1019. -/
def less (secret nonce : Nat) : Nat → Nat
  | 0 => nonce
  | c + 1 => (less secret nonce c + 1019 - secret) % 1019
theorem less_lt (secret nonce c : Nat) (h : nonce < 1019) : less secret nonce c < 1019 := by
  cases c with
  | zero => exact h
  | succ c => unfold less; omega
/-- A signed head. -/
def headText (size : Nat) (root : ByteArray) (c s : Nat) : ByteArray := ⟨#[72]⟩ ++ two size ++ root ++ two c ++ two s
def signT (secret nonce size : Nat) (root : ByteArray) : ByteArray :=
  headText size root (said (powM 4 secret) (powM 4 nonce) size root) (less secret nonce (said (powM 4 secret) (powM 4 nonce) size root))
/-- May a head be signed so? -/
def signB (secret nonce size : Int) (root : ByteArray) : Bool :=
  decide (1 ≤ secret) && decide (secret ≤ 1018) && decide (1 ≤ nonce) && decide (nonce ≤ 1018) && decide (0 ≤ size) && decide (size ≤ 40) && isSumB root

/-- The k-th byte. -/
def byt (b : ByteArray) (k : Nat) : Nat := (b.data.toList.getD k 0).toNat
theorem byt_eq (b : ByteArray) (k : Nat) (h : k < b.size) : b[k].toNat = byt b k := by
  unfold byt
  rw [List.getD_eq_getElem?_getD, List.getElem?_eq_getElem (by simpa using h)]
  rfl
theorem byt_lt (b : ByteArray) (k : Nat) : byt b k < 256 := by unfold byt; exact UInt8.toNat_lt _
def hSize (b : ByteArray) : Nat := byt b 1 + 256 * byt b 2
def hRoot (b : ByteArray) : ByteArray := b.extract 3 7
def hC (b : ByteArray) : Nat := byt b 7 + 256 * byt b 8
def hS (b : ByteArray) : Nat := byt b 9 + 256 * byt b 10
/-- Are bytes a signed head? -/
def headB (b : ByteArray) : Bool := decide (b.size = 11) && (decide (byt b 0 = 72) && decide (hSize b ≤ 40) && isSumB (hRoot b) && decide (hC b < 1019) && decide (hS b < 1019))
/-- Is a signature right? -/
def rightB (key : Nat) (b : ByteArray) : Bool := decide (said key (powM 4 (hS b) * powM key (hC b) % 2039) (hSize b) (hRoot b) = hC b)
end Go.Proofs.Ytkhnjipjbhcgdab.Pl
