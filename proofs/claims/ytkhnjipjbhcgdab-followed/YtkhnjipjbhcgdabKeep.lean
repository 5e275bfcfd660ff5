import Derived.Test.YtkhnjipjbhcgdabPlainT
import Derived.Test.YtkhnjipjbhcgdabHand
/-
  THE WALK of treeheadlaw.Sums.
-/
namespace Go.Proofs.Ytkhnjipjbhcgdab
open Go.RowKit

/-- The texts joined. -/
def catB (ss : List ByteArray) : ByteArray := ⟨(Pl.cat ss).toArray⟩
theorem catB_toList (ss : List ByteArray) : (catB ss).data.toList = Pl.cat ss := by simp [catB]
theorem catB_size (ss : List ByteArray) : (catB ss).size = (Pl.cat ss).length := by simp [catB, ByteArray.size]
theorem catB_take (ss : List ByteArray) (k : Nat) (h : k < ss.length) : catB (ss.take (k + 1)) = catB (ss.take k) ++ ss[k] := by
  apply ByteArray.ext
  simp [catB, Pl.cat_take ss k h, ByteArray.data_append]
theorem cat_take_le (ss : List ByteArray) (k : Nat) : (Pl.cat (ss.take k)).length ≤ (Pl.cat ss).length := by
  have h := congrArg List.length (Pl.cat_append (ss.take k) (ss.drop k))
  rw [List.take_append_drop, List.length_append] at h
  omega

theorem Row.grow {B : Nat} {w w' : World} {p : Option Addr} {ss : List ByteArray} (hr : Row w p ss) (h : Below B w w') (hB : w.heap.size ≤ B) : Row w' p ss := by
  refine ⟨hr.len, hr.size, ?_⟩
  rcases hr.cell with h0 | ⟨b, o, rfl, hb, hc⟩
  · exact Or.inl h0
  · exact Or.inr ⟨b, o, rfl, by have := h.size; omega, fun i hi => by rw [h.cell (p := ⟨b, o + i, none⟩) (show b < B by omega)]; exact hc i hi⟩
theorem Row.new (w : World) (ss : List ByteArray) (hl : ss.length ≤ maxLen) (hs : ∀ s ∈ ss, s.size ≤ maxLen) : Row (w.alloc (.cells (rowOf ss 8).toArray 9)) (some ⟨w.heap.size, 0, none⟩) ss := by
  refine ⟨hl, hs, Or.inr ⟨w.heap.size, 0, rfl, by simp, fun i hi => ?_⟩⟩
  rw [Nat.zero_add, World.cell?_alloc_mark, List.getElem?_toArray]
  exact rowOf_at ss i hi

theorem Row.ne {w : World} {p : Option Addr} {ss : List ByteArray} {B : Nat} (hr : Row w p ss) (hB : w.heap.size ≤ B) : ∀ b o, ss ≠ [] → p = some ⟨b, o, none⟩ → b ≠ B := by
  intro b o hs he
  rcases hr.cell with h0 | ⟨b', o', h1, hb', _⟩
  · exact absurd h0 hs
  · rw [he] at h1
    simp at h1
    omega

theorem row_nil (w : World) : Row w none [] := ⟨by simp, by simp, Or.inl rfl⟩

end Go.Proofs.Ytkhnjipjbhcgdab

/-
  THE WALKS of treeheadkeep.pick and treeheadkeep.number; a Row in a literal; Sum by what it is the sum of.
-/
namespace Go.Proofs.Ytkhnjipjbhcgdab
open Go.RowKit

/-- Which of n things the raw number c speaks of. -/
def pickOf (c n : Int) : Int := (if c < 0 then -(c + 1) else c) % n
theorem pickOf_nonneg (c n : Int) (h : 0 < n) : 0 ≤ pickOf c n := Int.emod_nonneg _ (by omega)
theorem pickOf_lt (c n : Int) (h : 0 < n) : pickOf c n < n := Int.emod_lt_of_pos _ h

set_option maxRecDepth 100000 in
set_option maxHeartbeats 400000 in
theorem pick_any (c n : Int) (w : World) (hc : -9223372036854775808 ≤ c ∧ c ≤ 9223372036854775807) (hn : 0 < n) (hn2 : n ≤ 9223372036854775807) :
    Calls Try.prog 8 #[.int .i64 c, .int .i64 n] w fun e w' => e = .returned (.int .i64 (pickOf c n)) ∧ w' = w := by
  obtain ⟨hc1, hc2⟩ := hc
  by_cases h : c < 0
  · have hp : pickOf c n = (-(c + 1)) % n := by unfold pickOf; rw [if_pos h]
    go_enter Try.func8, Try.ntmps8
    go_wp2
    all_goals go_ret
    all_goals exact ⟨ret_int (by rw [← Int.neg_tmod, Int.tmod_eq_emod_of_nonneg (by omega), hp]), rfl⟩
  · have hp : pickOf c n = c % n := by unfold pickOf; rw [if_neg h]
    go_enter Try.func8, Try.ntmps8
    go_wp2
    all_goals go_ret
    all_goals exact ⟨rfl, rfl⟩

theorem hex_small (d : Nat) (h : d < 10) : (Pl.hex d).toNat = 48 + d := by
  have hk : ∀ k : Fin 10, (Pl.hex k.val).toNat = 48 + k.val := by decide +kernel
  exact hk ⟨d, h⟩
theorem hex_great (d : Nat) (h : d < 16) (h2 : ¬ d < 10) : (Pl.hex d).toNat = 87 + d := by
  have hk : ∀ k : Fin 16, ¬ k.val < 10 → (Pl.hex k.val).toNat = 87 + k.val := by decide +kernel
  exact hk ⟨d, h⟩ h2

def valOf (l : List Nat) : Nat := l.foldl (fun n d => 16 * n + d) 0
theorem valOf_snoc (l : List Nat) (d : Nat) : valOf (l ++ [d]) = 16 * valOf l + d := by simp [valOf]
theorem valOf_lt : ∀ (l : List Nat) (k : Nat), (∀ d ∈ l, d < 16) → valOf (l.take k) < 16 ^ k
  | l, 0, _ => by simp [valOf]
  | l, k + 1, h => by
    have ih := valOf_lt l k h
    by_cases hk : k < l.length
    · rw [List.take_succ_eq_append_getElem hk, valOf_snoc, Nat.pow_succ]
      have := h l[k] (List.getElem_mem _)
      omega
    · rw [List.take_of_length_le (by omega)] at ih ⊢
      rw [Nat.pow_succ]
      omega

/-- Texts in a literal of the law's own. -/
theorem Row.lit (w : World) (ss : List ByteArray) (hl : ss.length ≤ maxLen) (hs : ∀ s ∈ ss, s.size ≤ maxLen) : Row (w.alloc (.cells (ss.map Value.string).toArray 9)) (some ⟨w.heap.size, 0, none⟩) ss := by
  refine ⟨hl, hs, Or.inr ⟨w.heap.size, 0, rfl, by simp, fun i hi => ?_⟩⟩
  rw [Nat.zero_add, World.cell?_alloc_mark, List.getElem?_toArray]
  simp [hi]

theorem sum_of (p : Option Addr) (cap : Nat) (ss : List ByteArray) (l : List UInt8) (w : World) (hr : Row w p ss) (hl : Pl.cat ss = l) :
    Calls Try.prog 9 #[.slice p ss.length cap] w fun e w' => e = .returned (.string (Pl.sum l)) ∧ Below w.heap.size w w' := by
  subst hl
  exact sum_any p cap ss w hr

theorem sum_zero (w : World) :
    Calls Try.prog 9 #[.slice none 0 0] w fun e w' => e = .returned (.string ⟨#[48, 48, 48, 49]⟩) ∧ Below w.heap.size w w' := by
  have h := sum_any none 0 [] w (row_nil w)
  have e : Pl.sum (Pl.cat []) = ⟨#[48, 48, 48, 49]⟩ := by decide +kernel
  rw [e] at h
  exact h

theorem byte_nat (b : Nat) (hb : b < 256) : (UInt8.ofNat b).toNat = b := by
  rw [UInt8.toNat_ofNat', Nat.mod_eq_of_lt (by simpa using hb)]
theorem one_byte (b : Nat) (hb : b < 256) (w : World) :
    (convert 25 9 (.slice (some ⟨w.heap.size, 0, none⟩) 1 1)).run Try.prog (w.alloc (.cells #[.int .u8 (b : Int)] 5)) =
      .ok (.string ⟨#[UInt8.ofNat b]⟩) (w.alloc (.cells #[.int .u8 (b : Int)] 5)) := by
  have e : ((UInt8.ofNat b).toNat : Int) = (b : Int) := by
    rw [UInt8.toNat_ofNat', Nat.mod_eq_of_lt (by simpa using hb)]
  have h := run_convert_bytes_back (P := Try.prog) (w.alloc (.cells #[.int .u8 ((UInt8.ofNat b).toNat : Int)] 5)) 25 9 5 ⟨w.heap.size, 0, none⟩ 1 [UInt8.ofNat b] Try.underlying25 Try.underlying5 Try.underlying9 (by
    intro j hj
    rw [add_plain, World.cell?_alloc_mark]
    match j, hj with
    | 0, _ => rfl)
  rw [e] at h
  exact h

end Go.Proofs.Ytkhnjipjbhcgdab
