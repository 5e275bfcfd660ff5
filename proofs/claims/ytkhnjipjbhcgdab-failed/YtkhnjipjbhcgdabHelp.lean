/-
  SMALL HELP for the walks of the program's own calls; it names no function of the document's answer.
-/
import Derived.Test.YtkhnjipjbhcgdabSum
import Derived.Test.YtkhnjipjbhcgdabPlainK
import Derived.Test.YtkhnjipjbhcgdabPlainG
import Derived.Laws.Externs
namespace Go.Proofs.Ytkhnjipjbhcgdab.Hp
open Go.RowKit

theorem add_plain (b o j : Nat) : (⟨b, o, none⟩ : Addr).add j = ⟨b, o + j, none⟩ := by unfold Addr.add; split <;> simp_all
theorem byte_nat (b : Nat) (hb : b < 256) : (UInt8.ofNat b).toNat = b := by rw [UInt8.toNat_ofNat']; omega
theorem ret_bool {a b : Bool} (h : a = b) : Ending.returned (.bool a) = .returned (.bool b) := by rw [h]

theorem isSumB_long {s : ByteArray} (h : ¬ s.size = 4) : Pl.isSumB s = false := by simp [Pl.isSumB, h]
theorem isSumB_bad {s : ByteArray} (k : Nat) (hk : k < s.size) (h : Pl.digB s[k] = false) : Pl.isSumB s = false := by
  cases hb : Pl.isSumB s with
  | false => rfl
  | true =>
    simp only [Pl.isSumB, Bool.and_eq_true, List.all_eq_true] at hb
    have := hb.2 s[k] (by
      rw [show s[k] = s.data.toList[k]'(by simpa using hk) from rfl]
      exact List.getElem_mem _)
    rw [h] at this
    cases this
theorem isSumB_good {s : ByteArray} (h : s.size = 4) (ha : ∀ k (hk : k < s.size), Pl.digB s[k] = true) : Pl.isSumB s = true := by
  simp only [Pl.isSumB, Bool.and_eq_true, List.all_eq_true, decide_eq_true_eq]
  refine ⟨h, fun c hc => ?_⟩
  obtain ⟨k, hk, rfl⟩ := List.getElem_of_mem hc
  exact ha k (by simpa using hk)
theorem isSumB_size {s : ByteArray} (h : Pl.isSumB s = true) : s.size = 4 := by
  simp only [Pl.isSumB, Bool.and_eq_true, decide_eq_true_eq] at h
  exact h.1

theorem two_bytes (a b : Nat) (ha : a < 256) (hb : b < 256) (w : World) :
    (convert 25 9 (.slice (some ⟨w.heap.size, 0, none⟩) 2 2)).run Try.prog (w.alloc (.cells #[.int .u8 (a : Int), .int .u8 (b : Int)] 5)) =
      .ok (.string ⟨#[UInt8.ofNat a, UInt8.ofNat b]⟩) (w.alloc (.cells #[.int .u8 (a : Int), .int .u8 (b : Int)] 5)) := by
  have e1 : ((UInt8.ofNat a).toNat : Int) = (a : Int) := by rw [byte_nat a ha]
  have e2 : ((UInt8.ofNat b).toNat : Int) = (b : Int) := by rw [byte_nat b hb]
  have h := run_convert_bytes_back (P := Try.prog) (w.alloc (.cells #[.int .u8 ((UInt8.ofNat a).toNat : Int), .int .u8 ((UInt8.ofNat b).toNat : Int)] 5)) 25 9 5 ⟨w.heap.size, 0, none⟩ 2 [UInt8.ofNat a, UInt8.ofNat b] Try.underlying25 Try.underlying5 Try.underlying9 (by
    intro j hj
    rw [add_plain, World.cell?_alloc_mark]
    match j, hj with
    | 0, _ => rfl
    | 1, _ => rfl)
  rw [e1, e2] at h
  exact h
theorem keep2 {w1 w2 : World} {k : Nat} {a b : Value} (hb : Below w1.heap.size w1 w2) (hk : k < w1.heap.size) (h0 : w1.cell? ⟨k, 0, none⟩ = some a) (h1 : w1.cell? ⟨k, 1, none⟩ = some b) :
    w2.cell? ⟨k, 0, none⟩ = some a ∧ w2.cell? ⟨k, 1, none⟩ = some b ∧ k < w2.heap.size := by
  refine ⟨by rw [hb.cell (p := ⟨k, 0, none⟩) hk]; exact h0, by rw [hb.cell (p := ⟨k, 1, none⟩) hk]; exact h1, ?_⟩
  have := hb.size
  omega

theorem firstIdx_digits (c : UInt8) : (firstIdx ⟨#[48, 49, 50, 51, 52, 53, 54, 55, 56, 57, 97, 98, 99, 100, 101, 102]⟩ c < 0) ↔ Pl.digB c = false := by
  have h : ∀ k : Fin 256, decide (firstIdx ⟨#[48, 49, 50, 51, 52, 53, 54, 55, 56, 57, 97, 98, 99, 100, 101, 102]⟩ (UInt8.ofNat k.val) < 0) = (Pl.digB (UInt8.ofNat k.val) == false) := by decide +kernel
  have hc := h ⟨c.toNat, c.toNat_lt⟩
  rw [UInt8.ofNat_toNat] at hc
  constructor
  · intro hh
    rw [decide_eq_true hh] at hc
    exact beq_iff_eq.1 hc.symm
  · intro hh
    rw [hh] at hc
    exact of_decide_eq_true hc

theorem row_lit (w : World) (ss : List ByteArray) (hl : ss.length ≤ maxLen) (hs : ∀ s ∈ ss, s.size ≤ maxLen) : Row (w.alloc (.cells (ss.map Value.string).toArray 9)) (some ⟨w.heap.size, 0, none⟩) ss := by
  refine ⟨hl, hs, Or.inr ⟨w.heap.size, 0, rfl, by simp, fun i hi => ?_⟩⟩
  rw [Nat.zero_add, World.cell?_alloc_mark, List.getElem?_toArray]
  simp [hi]
theorem below_drewN {B : Nat} {a w : World} (h : Below B a w) (n : Nat) : Below B a (w.drewN n) := h.trans ⟨rfl, rfl, rfl, Nat.le_refl _, fun _ _ => rfl⟩
/-- Four cells, kept. -/
theorem keep4 {w1 w2 : World} {k : Nat} {a b c d : Value} (hb : Below w1.heap.size w1 w2) (hk : k < w1.heap.size) (h0 : w1.cell? ⟨k, 0, none⟩ = some a) (h1 : w1.cell? ⟨k, 1, none⟩ = some b) (h2 : w1.cell? ⟨k, 2, none⟩ = some c) (h3 : w1.cell? ⟨k, 3, none⟩ = some d) :
    w2.cell? ⟨k, 0, none⟩ = some a ∧ w2.cell? ⟨k, 1, none⟩ = some b ∧ w2.cell? ⟨k, 2, none⟩ = some c ∧ w2.cell? ⟨k, 3, none⟩ = some d ∧ k < w2.heap.size := by
  refine ⟨by rw [hb.cell (p := ⟨k, 0, none⟩) hk]; exact h0, by rw [hb.cell (p := ⟨k, 1, none⟩) hk]; exact h1, by rw [hb.cell (p := ⟨k, 2, none⟩) hk]; exact h2, by rw [hb.cell (p := ⟨k, 3, none⟩) hk]; exact h3, ?_⟩
  have := hb.size
  omega
end Go.Proofs.Ytkhnjipjbhcgdab.Hp
