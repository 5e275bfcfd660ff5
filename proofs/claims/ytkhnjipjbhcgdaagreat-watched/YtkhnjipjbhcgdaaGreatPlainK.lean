import Derived.Test.YtkhnjipjbhcgdaaGreatPlainS
/-
  THE PLAIN MATHEMATICS: powers by squaring, which numbers are keys, what is left modulo 1019, a signed head read and written again.
-/
namespace Go.Proofs.YtkhnjipjbhcgdaaGreat.Pl

theorem powM_eq (b n : Nat) : powM b n = b ^ n % 2039 := by
  induction n with
  | zero => rfl
  | succ n ih => unfold powM; rw [ih, Nat.pow_succ, Nat.mod_mul_mod]

/-- One round of squaring: n odd. -/
theorem sq_odd (o b n : Nat) (h : n % 2 = 1) : (o * b % 2039) * (b * b % 2039) ^ (n / 2) % 2039 = o * b ^ n % 2039 := by
  have hn : n = 2 * (n / 2) + 1 := by omega
  rw [Nat.mod_mul_mod, Nat.mul_mod, ← Nat.pow_mod, ← Nat.mul_mod]
  conv => rhs; rw [hn]
  rw [Nat.pow_succ, Nat.pow_mul, Nat.pow_two, Nat.mul_assoc, Nat.mul_comm b]
/-- One round of squaring: n even. -/
theorem sq_even (o b n : Nat) (h : n % 2 = 0) : o * (b * b % 2039) ^ (n / 2) % 2039 = o * b ^ n % 2039 := by
  have hn : n = 2 * (n / 2) := by omega
  rw [Nat.mul_mod, ← Nat.pow_mod, ← Nat.mul_mod]
  conv => rhs; rw [hn]
  rw [Nat.pow_mul, Nat.pow_two]

/-- The keys, a bit each. -/
def keyBits : Nat → Nat
  | 0 => 0
  | k + 1 => keyBits k ||| 1 <<< (4 ^ (k + 1) % 2039)
theorem keyBits_iff (n : Nat) : ∀ k, (keyBits k).testBit n = true ↔ ∃ i, 1 ≤ i ∧ i ≤ k ∧ 4 ^ i % 2039 = n := by
  intro k
  induction k with
  | zero =>
    unfold keyBits
    constructor
    · intro h; simp at h
    · rintro ⟨i, h1, h2, _⟩; omega
  | succ k ih =>
    have hb : (1 <<< (4 ^ (k + 1) % 2039)).testBit n = decide (4 ^ (k + 1) % 2039 = n) := by
      rw [Nat.one_shiftLeft, Nat.testBit_two_pow]
    unfold keyBits
    rw [Nat.testBit_or, hb, Bool.or_eq_true, ih, decide_eq_true_iff]
    constructor
    · rintro (⟨i, h1, h2, h3⟩ | h)
      · exact ⟨i, h1, by omega, h3⟩
      · exact ⟨k + 1, by omega, by omega, h⟩
    · rintro ⟨i, h1, h2, h3⟩
      by_cases hi : i = k + 1
      · subst hi; exact Or.inr h3
      · exact Or.inl ⟨i, h1, by omega, h3⟩

def allB (f : Nat → Bool) : Nat → Bool
  | 0 => true
  | n + 1 => f n && allB f n
theorem allB_at {f : Nat → Bool} : ∀ {n : Nat}, allB f n = true → ∀ j, j < n → f j = true := by
  intro n
  induction n with
  | zero => intro _ j h; omega
  | succ n ih =>
    intro h j hj
    unfold allB at h
    rw [Bool.and_eq_true] at h
    by_cases he : j = n
    · subst he; exact h.1
    · exact ih h.2 j (by omega)

set_option maxRecDepth 100000 in
theorem keys_chk : allB (fun j => (((j + 2) ^ 1019 % 2039 == 1) == (keyBits 1018).testBit (j + 2))) 2037 = true := by decide +kernel
set_option maxRecDepth 100000 in
theorem keys_big : allB (fun j => Nat.ble 2 (4 ^ (j + 1) % 2039)) 1018 = true := by decide +kernel

/-- A key is more than 1, below 2039, and to the power 1019 it is 1; and what is so is a key. -/
theorem keyB_pow (key : Int) : keyB key = (decide (1 < key) && (decide (key < 2039) && decide (powM key.toNat 1019 = 1))) := by
  by_cases h : 1 < key ∧ key < 2039
  · obtain ⟨j, rfl⟩ : ∃ j : Nat, key = ((j + 2 : Nat) : Int) := ⟨key.toNat - 2, by omega⟩
    have hj := allB_at keys_chk j (by omega)
    rw [beq_iff_eq] at hj
    have e : ((j + 2 : Nat) : Int).toNat = j + 2 := by omega
    rw [decide_eq_true h.1, decide_eq_true h.2, Bool.true_and, Bool.true_and, e, powM_eq]
    have hq : decide ((j + 2) ^ 1019 % 2039 = 1) = ((j + 2) ^ 1019 % 2039 == 1) := rfl
    rw [hq, hj]
    cases hb : (keyBits 1018).testBit (j + 2) with
    | true =>
      obtain ⟨i, h1, h2, h3⟩ := (keyBits_iff (j + 2) 1018).1 hb
      exact keyB_at i h1 h2 (by rw [powM_eq, h3])
    | false =>
      refine keyB_none fun k h1 h2 h3 => ?_
      rw [powM_eq] at h3
      have : (keyBits 1018).testBit (j + 2) = true := (keyBits_iff (j + 2) 1018).2 ⟨k, h1, h2, by omega⟩
      rw [hb] at this
      cases this
  · have hf : (decide (1 < key) && (decide (key < 2039) && decide (powM key.toNat 1019 = 1))) = false := by
      by_cases h1 : 1 < key
      · have h2 : ¬ key < 2039 := fun h2 => h ⟨h1, h2⟩
        simp [h2]
      · simp [h1]
    rw [hf]
    refine keyB_none fun k h1 h2 h3 => h ?_
    have hk := allB_at keys_big (k - 1) (by omega)
    rw [Nat.ble_eq, show k - 1 + 1 = k by omega] at hk
    have hl := powM_lt 4 k
    rw [powM_eq] at h3 hl
    omega

/-- What is left modulo 1019, as a difference. -/
theorem less_int (secret nonce : Nat) (hs : secret ≤ 1019) (hn : nonce < 1019) : ∀ c : Nat, (less secret nonce c : Int) = ((nonce : Int) - (secret : Int) * (c : Int)) % 1019 := by
  intro c
  induction c with
  | zero => show (nonce : Int) = _; rw [show ((0 : Nat) : Int) = 0 from rfl, Int.mul_zero]; omega
  | succ c ih =>
    show (((less secret nonce c + 1019 - secret) % 1019 : Nat) : Int) = _
    rw [show ((c + 1 : Nat) : Int) = (c : Int) + 1 by omega, Int.mul_add, Int.mul_one]
    generalize (secret : Int) * (c : Int) = y at *
    generalize less secret nonce c = z at *
    omega

theorem two_join (x y : UInt8) : two (x.toNat + 256 * y.toNat) = ⟨#[x, y]⟩ := by
  have hx := x.toNat_lt
  have hy := y.toNat_lt
  unfold two
  rw [show (x.toNat + 256 * y.toNat) % 256 = x.toNat by omega, show (x.toNat + 256 * y.toNat) / 256 = y.toNat by omega, UInt8.ofNat_toNat, UInt8.ofNat_toNat]
theorem list11 {α : Type} (l : List α) (h : l.length = 11) : ∃ a0 a1 a2 a3 a4 a5 a6 a7 a8 a9 a10, l = [a0, a1, a2, a3, a4, a5, a6, a7, a8, a9, a10] := by
  match l, h with
  | [a0, a1, a2, a3, a4, a5, a6, a7, a8, a9, a10], _ => exact ⟨a0, a1, a2, a3, a4, a5, a6, a7, a8, a9, a10, rfl⟩
/-- A signed head that is read and written again is what it was. -/
theorem head_again (b : ByteArray) (h : headB b = true) : headText (hSize b) (hRoot b) (hC b) (hS b) = b := by
  unfold headB at h
  rw [Bool.and_eq_true, decide_eq_true_iff] at h
  obtain ⟨hz, h⟩ := h
  simp only [Bool.and_eq_true, decide_eq_true_iff] at h
  have h0 := h.1.1.1.1
  obtain ⟨a0, a1, a2, a3, a4, a5, a6, a7, a8, a9, a10, hl⟩ := list11 b.data.toList (by simpa using hz)
  obtain rfl : b = ⟨#[a0, a1, a2, a3, a4, a5, a6, a7, a8, a9, a10]⟩ := by
    apply ByteArray.ext
    apply Array.toList_inj.1
    exact hl
  obtain rfl : a0 = 72 := by
    have : a0.toNat = 72 := h0
    exact UInt8.toNat_inj.1 this
  have e1 : two (hSize ⟨#[72, a1, a2, a3, a4, a5, a6, a7, a8, a9, a10]⟩) = ⟨#[a1, a2]⟩ := two_join a1 a2
  have e2 : two (hC ⟨#[72, a1, a2, a3, a4, a5, a6, a7, a8, a9, a10]⟩) = ⟨#[a7, a8]⟩ := two_join a7 a8
  have e3 : two (hS ⟨#[72, a1, a2, a3, a4, a5, a6, a7, a8, a9, a10]⟩) = ⟨#[a9, a10]⟩ := two_join a9 a10
  have e4 : hRoot ⟨#[72, a1, a2, a3, a4, a5, a6, a7, a8, a9, a10]⟩ = ⟨#[a3, a4, a5, a6]⟩ := by
    apply ByteArray.ext
    unfold hRoot
    rw [ByteArray.data_extract]
    rfl
  unfold headText
  rw [e1, e2, e3, e4]
  apply ByteArray.ext
  simp [ByteArray.data_append]
/-- A signed head that is written reads as it was. -/
theorem head_read (size : Nat) (root : ByteArray) (c s : Nat) (hs : size ≤ 40) (hr : isSumB root = true) (hc : c < 1019) (hd : s < 1019) :
    (headText size root c s).size = 11 ∧ byt (headText size root c s) 0 = 72 ∧ hSize (headText size root c s) = size ∧ hRoot (headText size root c s) = root ∧ hC (headText size root c s) = c ∧ hS (headText size root c s) = s := by
  have hz : root.size = 4 := by
    unfold isSumB at hr
    rw [Bool.and_eq_true, decide_eq_true_iff] at hr
    exact hr.1
  obtain ⟨r0, r1, r2, r3, hl⟩ : ∃ r0 r1 r2 r3, root.data.toList = [r0, r1, r2, r3] := by
    have hz2 : root.data.toList.length = 4 := by simpa using hz
    match root.data.toList, hz2 with
    | [r0, r1, r2, r3], _ => exact ⟨r0, r1, r2, r3, rfl⟩
  obtain rfl : root = ⟨#[r0, r1, r2, r3]⟩ := by
    apply ByteArray.ext
    apply Array.toList_inj.1
    exact hl
  have hT : headText size ⟨#[r0, r1, r2, r3]⟩ c s = ⟨#[72, UInt8.ofNat (size % 256), UInt8.ofNat (size / 256), r0, r1, r2, r3, UInt8.ofNat (c % 256), UInt8.ofNat (c / 256), UInt8.ofNat (s % 256), UInt8.ofNat (s / 256)]⟩ := by
    unfold headText two
    apply ByteArray.ext
    simp [ByteArray.data_append]
  rw [hT]
  have hb : ∀ n : Nat, n < 65536 → (UInt8.ofNat (n % 256)).toNat + 256 * (UInt8.ofNat (n / 256)).toNat = n := by
    intro n hn
    rw [UInt8.toNat_ofNat', UInt8.toNat_ofNat']
    omega
  refine ⟨rfl, rfl, hb size (by omega), ?_, hb c (by omega), hb s (by omega)⟩
  apply ByteArray.ext
  unfold hRoot
  rw [ByteArray.data_extract]
  rfl
theorem headB_text (size : Nat) (root : ByteArray) (c s : Nat) (hs : size ≤ 40) (hr : isSumB root = true) (hc : c < 1019) (hd : s < 1019) : headB (headText size root c s) = true := by
  obtain ⟨h1, h2, h3, h4, h5, h6⟩ := head_read size root c s hs hr hc hd
  unfold headB
  rw [h1, h2, h3, h4, h5, h6, hr]
  simp [hs, hc, hd]
theorem four_1019 : 4 ^ 1019 % 2039 = 1 := by decide +kernel
/-- Powers of 4 hang on the exponent modulo 1019. -/
theorem pow4_mod (n : Nat) : 4 ^ n % 2039 = 4 ^ (n % 1019) % 2039 := by
  conv => lhs; rw [← Nat.div_add_mod n 1019]
  rw [Nat.pow_add, Nat.pow_mul, Nat.mul_mod, Nat.pow_mod, four_1019, Nat.one_pow]
  simp
/-- What is signed is right: 4^s times (4^x)^c is 4^nonce. -/
theorem right_pow (x nonce c : Nat) (hx : x ≤ 1018) (hn : nonce < 1019) : powM 4 (less x nonce c) * powM (powM 4 x) c % 2039 = powM 4 nonce := by
  have hi := less_int x nonce (by omega) hn c
  have hm : (less x nonce c + x * c) % 1019 = nonce % 1019 := by
    have : (((less x nonce c + x * c) % 1019 : Nat) : Int) = ((nonce % 1019 : Nat) : Int) := by
      rw [Int.natCast_emod, Int.natCast_add, Int.natCast_mul, hi]
      omega
    omega
  rw [powM_eq 4 (less x nonce c), powM_eq (powM 4 x) c, powM_eq 4 x, ← Nat.mul_mod, Nat.mul_mod, ← Nat.pow_mod, ← Nat.mul_mod, ← Nat.pow_mul, ← Nat.pow_add, pow4_mod, hm, ← pow4_mod, powM_eq]
end Go.Proofs.YtkhnjipjbhcgdaaGreat.Pl
