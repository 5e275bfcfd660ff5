/-
  WHAT treeheadkeep.Opened WANTS OF THE PLAIN ANSWERS: one bit turned.
-/
import Derived.Test.YtkhnjipjbhcgdabMade
import Derived.Test.YtkhnjipjbhcgdabTBox
namespace Go.Proofs.Ytkhnjipjbhcgdab
open Hp

/-- The bytes with bit n turned. -/
def flipL (l : List UInt8) (n : Nat) : List UInt8 := l.set (n / 8) ((l.getD (n / 8) 0) ^^^ (1 <<< UInt8.ofNat (n % 8)))
def flipB (b : ByteArray) (n : Nat) : ByteArray := ⟨(flipL b.data.toList n).toArray⟩
theorem flip_ne (x : UInt8) (k : Nat) (h : k < 8) : x ^^^ (1 <<< UInt8.ofNat k) ≠ x := by
  have hb : ∀ k : Fin 8, (1 : UInt8) <<< UInt8.ofNat k.val ≠ 0 := by decide
  intro he
  have h2 : x ^^^ (x ^^^ (1 <<< UInt8.ofNat k)) = x ^^^ x := by rw [he]
  rw [← UInt8.xor_assoc, UInt8.xor_self, UInt8.zero_xor] at h2
  exact hb ⟨k, h⟩ h2
theorem flip_size (b : ByteArray) (n : Nat) : (flipB b n).size = b.size := by
  unfold flipB flipL
  show ((b.data.toList.set _ _).toArray).size = _
  simp
theorem flip_byt (b : ByteArray) (n k : Nat) : Pl.byt (flipB b n) k = if k = n / 8 ∧ k < b.size then ((b.data.toList.getD k 0) ^^^ (1 <<< UInt8.ofNat (n % 8))).toNat else Pl.byt b k := by
  unfold Pl.byt flipB flipL
  rw [List.toList_toArray, List.getD_eq_getElem?_getD, List.getElem?_set]
  by_cases h : n / 8 = k
  · subst h
    by_cases hl : n / 8 < b.size
    · have hl' : n / 8 < b.data.toList.length := by simpa using hl
      rw [if_pos rfl, if_pos hl', if_pos ⟨rfl, hl⟩]
      rfl
    · have hl' : ¬ n / 8 < b.data.toList.length := by simpa using hl
      rw [if_pos rfl, if_neg hl', if_neg (fun hh => hl hh.2), List.getD_eq_getElem?_getD, List.getElem?_eq_none (by omega)]
  · rw [if_neg h, if_neg (fun hh => h hh.1.symm), List.getD_eq_getElem?_getD]
theorem flip_byt_ne (b : ByteArray) (n : Nat) (h : n / 8 < b.size) : Pl.byt (flipB b n) (n / 8) ≠ Pl.byt b (n / 8) := by
  rw [flip_byt, if_pos ⟨rfl, h⟩]
  intro he
  unfold Pl.byt at he
  exact flip_ne _ _ (Nat.mod_lt _ (by omega)) (UInt8.toNat_inj.1 he)
theorem flip_byt_eq (b : ByteArray) (n k : Nat) (h : k ≠ n / 8) : Pl.byt (flipB b n) k = Pl.byt b k := by
  rw [flip_byt, if_neg (fun hh => h hh.1)]
theorem root_byt (b : ByteArray) (k : Nat) (hk : k < 4) : Pl.byt (Pl.hRoot b) k = Pl.byt b (3 + k) := by
  unfold Pl.hRoot Pl.byt
  rw [Lib.extract_data, List.getD_eq_getElem?_getD, List.getD_eq_getElem?_getD, List.getElem?_take, if_pos (by omega), List.getElem?_drop]
theorem list4 {α : Type} (l : List α) (h : l.length = 4) : ∃ a0 a1 a2 a3, l = [a0, a1, a2, a3] := by
  match l, h with
  | [a0, a1, a2, a3], _ => exact ⟨a0, a1, a2, a3, rfl⟩
/-- What is read of a head whose bit is turned: the same head just where the bit lies behind it. -/
theorem flip_head (b : ByteArray) (n : Nat) (hb : b.size = 11) (h1 : 8 ≤ n) (h2 : n < 88) : (Pl.hSize (flipB b n) = Pl.hSize b ∧ Pl.hRoot (flipB b n) = Pl.hRoot b) ↔ 56 ≤ n := by
  have hs := flip_size b n
  constructor
  · rintro ⟨e1, e2⟩
    apply Decidable.byContradiction
    intro hn
    have hd : 1 ≤ n / 8 ∧ n / 8 ≤ 6 := by omega
    have hne := flip_byt_ne b n (by omega)
    by_cases h3 : n / 8 < 3
    · unfold Pl.hSize at e1
      have c1 := Pl.byt_lt b 1
      have c2 := Pl.byt_lt b 2
      have d1 := Pl.byt_lt (flipB b n) 1
      have d2 := Pl.byt_lt (flipB b n) 2
      have : n / 8 = 1 ∨ n / 8 = 2 := by omega
      rcases this with h | h
      · rw [h] at hne
        omega
      · rw [h] at hne
        omega
    · have r1 := root_byt (flipB b n) (n / 8 - 3) (by omega)
      have r2 := root_byt b (n / 8 - 3) (by omega)
      rw [show 3 + (n / 8 - 3) = n / 8 by omega] at r1 r2
      rw [e2] at r1
      rw [← r1, ← r2] at hne
      exact hne rfl
  · intro hn
    constructor
    · unfold Pl.hSize
      rw [flip_byt_eq b n 1 (by omega), flip_byt_eq b n 2 (by omega)]
    · have ha : ∀ k, k < 4 → Pl.byt (Pl.hRoot (flipB b n)) k = Pl.byt (Pl.hRoot b) k := fun k hk => by
        rw [root_byt (flipB b n) k hk, root_byt b k hk, flip_byt_eq b n (3 + k) (by omega)]
      have z1 : (Pl.hRoot (flipB b n)).data.toList.length = 4 := by
        unfold Pl.hRoot
        rw [Lib.extract_data]
        have : (flipB b n).data.toList.length = 11 := by simpa using (by omega : (flipB b n).size = 11)
        simp [this]
      have z2 : (Pl.hRoot b).data.toList.length = 4 := by
        unfold Pl.hRoot
        rw [Lib.extract_data]
        have : b.data.toList.length = 11 := by simpa using hb
        simp [this]
      apply ByteArray.ext
      apply Array.ext'
      apply List.ext_getElem (by rw [z1, z2])
      intro k hk1 hk2
      have := ha k (by omega)
      unfold Pl.byt at this
      rw [List.getD_eq_getElem?_getD, List.getD_eq_getElem?_getD, List.getElem?_eq_getElem hk1, List.getElem?_eq_getElem hk2] at this
      exact UInt8.toNat_inj.1 this
theorem xor_bit (x : UInt8) (t : Nat) (h : t < 8) : bits .xor .u8 (x.toNat : Int) (2 ^ t % 256) = ((x ^^^ (1 <<< UInt8.ofNat t)).toNat : Int) := by
  have hk : ∀ (a : Fin 256) (b : Fin 8), bits .xor .u8 ((UInt8.ofNat a.val).toNat : Int) (2 ^ b.val % 256) = (((UInt8.ofNat a.val) ^^^ (1 <<< UInt8.ofNat b.val)).toNat : Int) := by decide +kernel
  have := hk ⟨x.toNat, x.toNat_lt⟩ ⟨t, h⟩
  rwa [UInt8.ofNat_toNat] at this
theorem flipL_length (l : List UInt8) (n : Nat) : (flipL l n).length = l.length := by unfold flipL; simp
/-- The cells of the bytes, with one bit turned. -/
theorem flip_cells (b : ByteArray) (n q t : Nat) (B : Nat) (W : World) (hb : b.size = 11) (hq : n / 8 = q) (ht : n % 8 = t) (hq11 : q < 11) (hc : ∀ j, j < 11 → W.cell? ⟨B, j, none⟩ = some (.int .u8 ((b.data.toList.getD j 0).toNat : Int))) (v : Value) (hv : v = .int .u8 (((b.data.toList.getD q 0) ^^^ (1 <<< UInt8.ofNat t)).toNat : Int)) :
    ∀ j (hj : j < (flipL b.data.toList n).length), (W.setCell ⟨B, q, none⟩ v).drew.cell? ⟨B, 0 + j, none⟩ = some (.int .u8 ((flipL b.data.toList n)[j].toNat : Int)) := by
  intro j hj
  have hl : b.data.toList.length = 11 := by simpa using hb
  have hj11 : j < 11 := by rw [flipL_length, hl] at hj; exact hj
  have hg : (flipL b.data.toList n)[j] = if q = j then (b.data.toList.getD q 0) ^^^ (1 <<< UInt8.ofNat t) else b.data.toList[j]'(by omega) := by
    have h? : (flipL b.data.toList n)[j]? = some (if q = j then (b.data.toList.getD q 0) ^^^ (1 <<< UInt8.ofNat t) else b.data.toList[j]'(by omega)) := by
      unfold flipL
      rw [List.getElem?_set, hq, ht]
      by_cases h : q = j
      · rw [if_pos h, if_pos h, if_pos (by omega)]
      · rw [if_neg h, if_neg h, List.getElem?_eq_getElem (by omega)]
    rw [List.getElem?_eq_getElem hj] at h?
    exact Option.some.inj h?
  rw [Nat.zero_add, hg]
  show (W.setCell ⟨B, q, none⟩ v).cell? ⟨B, j, none⟩ = _
  by_cases h : q = j
  · subst h
    rw [if_pos rfl, World.cell?_setCell_same' W _ _ (by rw [hc q hq11]; rfl), hv]
  · have hne : (⟨B, q, none⟩ : Addr) ≠ ⟨B, j, none⟩ := fun hh => h (congrArg Addr.off hh)
    rw [if_neg h, World.cell?_setCell_other _ _ _ _ hne, hc j hj11, List.getD_eq_getElem?_getD, List.getElem?_eq_getElem (by omega)]
    rfl
/-- With a bit of the first byte turned nothing opens. -/
theorem flip_first (k : Int) (b : ByteArray) (n : Nat) (hb : b.size = 11) (h72 : Pl.byt b 0 = 72) (h : n < 8) : ¬ openE k (flipB b n) = 0 := by
  have hne := flip_byt_ne b n (by omega)
  rw [show n / 8 = 0 by omega, h72] at hne
  have hf : Pl.headB (flipB b n) = false := by
    unfold Pl.headB
    simp [hne]
  unfold openE
  rw [hf]
  cases Pl.keyB k <;> simp
/-- A key, and 2039 more, is none. -/
theorem key_more (k : Nat) (b : ByteArray) : openE ((k : Int) + 2039) b = 2 := by
  have : Pl.keyB ((k : Int) + 2039) = false := by
    rw [Pl.keyB_pow]
    have : ¬ ((k : Int) + 2039 < 2039) := by omega
    simp [this]
  unfold openE
  rw [this]
  rfl
end Go.Proofs.Ytkhnjipjbhcgdab
