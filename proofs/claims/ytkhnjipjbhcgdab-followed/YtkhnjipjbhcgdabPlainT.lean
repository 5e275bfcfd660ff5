import Derived.Test.YtkhnjipjbhcgdabNum
import Derived.Handy
import Derived.BigQuiet
import Derived.Laws.IdiomStrings
/-
  THE WALKS of sums.written, sums.Of, treehead.Sum, treeheadref.Sum.
-/
namespace Go.Proofs.Ytkhnjipjbhcgdab
open Go.RowKit

theorem four_bytes (b1 b2 b3 b4 : UInt8) (w : World) :
    (convert 25 9 (.slice (some ⟨w.heap.size, 0, none⟩) 4 4)).run Try.prog (w.alloc (.cells #[.int .u8 b1.toNat, .int .u8 b2.toNat, .int .u8 b3.toNat, .int .u8 b4.toNat] 104)) =
      .ok (.string ⟨#[b1, b2, b3, b4]⟩) (w.alloc (.cells #[.int .u8 b1.toNat, .int .u8 b2.toNat, .int .u8 b3.toNat, .int .u8 b4.toNat] 104)) := by
  have h := run_convert_bytes_back (P := Try.prog) (w.alloc (.cells #[.int .u8 b1.toNat, .int .u8 b2.toNat, .int .u8 b3.toNat, .int .u8 b4.toNat] 104)) 25 9 5 ⟨w.heap.size, 0, none⟩ 4 [b1, b2, b3, b4] Try.underlying25 Try.underlying5 Try.underlying9 (by
    intro j hj
    have hadd : (⟨w.heap.size, 0, none⟩ : Addr).add j = ⟨w.heap.size, j, none⟩ := by unfold Addr.add; split <;> simp_all
    rw [hadd, World.cell?_alloc_mark]
    match j, hj with
    | 0, _ => rfl
    | 1, _ => rfl
    | 2, _ => rfl
    | 3, _ => rfl)
  exact h

def digits : ByteArray := ⟨#[48, 49, 50, 51, 52, 53, 54, 55, 56, 57, 97, 98, 99, 100, 101, 102]⟩
theorem hex_at (n : Nat) (h : n % 16 < digits.size) : digits[n % 16] = Pl.hex n := by
  have hk : ∀ k : Nat, (hk : k < 16) → ∀ h : k < digits.size, digits[k]'h = (if k < 10 then UInt8.ofNat (48 + k) else UInt8.ofNat (87 + k)) := by
    decide
  unfold Pl.hex
  exact hk (n % 16) (by omega) h

theorem ext_at (k : Nat) (h : k < 16) : digits.extract k (k + 1) = ⟨#[Pl.hex k]⟩ := by
  have hk : ∀ k : Fin 16, digits.extract k.val (k.val + 1) = ⟨#[Pl.hex k.val]⟩ := by decide +kernel
  exact hk ⟨k, h⟩
theorem hex_mod (n : Nat) : Pl.hex (n % 16) = Pl.hex n := by unfold Pl.hex; rw [Nat.mod_mod]
theorem dig_cat (n : Nat) (h : n < 65536) : digits.extract (n / 4096) (n / 4096 + 1) ++ digits.extract (n / 256 % 16) (n / 256 % 16 + 1) ++ digits.extract (n / 16 % 16) (n / 16 % 16 + 1) ++ digits.extract (n % 16) (n % 16 + 1) = ⟨(Pl.dig4 n).toArray⟩ := by
  rw [ext_at _ (by omega), ext_at _ (by omega), ext_at _ (by omega), ext_at _ (by omega), hex_mod, hex_mod, hex_mod]
  apply ByteArray.ext
  simp [ByteArray.data_append, Pl.dig4]

set_option maxRecDepth 100000 in
set_option maxHeartbeats 400000 in
theorem written_any (n : Nat) (w : World) (hn : n < 65536) :
    Calls Try.prog 51 #[.int .i64 n] w fun e w' => e = .returned (.string ⟨(Pl.dig4 n).toArray⟩) ∧ Below w.heap.size w w' := by
  have hcv := four_bytes
  go_enter Try.func51, Try.ntmps51
  go_wp2
  refine wp_loop_rounds 5 ?_
  rw [rounds_succ]; go_wp2
  rw [rounds_succ]; go_wp2
  rw [rounds_succ]; go_wp2
  rw [rounds_succ]; go_wp2
  rw [rounds_succ]; go_wp2
  go_ret
  refine ⟨?_, (Below.refl _ _).alloc (Nat.le_refl _) _⟩
  have hd : ∀ k : Nat, k % 16 < digits.size := fun k => Nat.mod_lt _ (by decide)
  have hx : Pl.dig4 n = [digits[n / 16 / 16 / 16 % 16]'(hd _), digits[n / 16 / 16 % 16]'(hd _), digits[n / 16 % 16]'(hd _), digits[n % 16]'(hd _)] := by
    rw [hex_at _ (hd _), hex_at _ (hd _), hex_at _ (hd _), hex_at _ (hd _)]
    simp only [Nat.div_div_eq_div_mul]
    rfl
  rw [hx]
  rfl

set_option maxRecDepth 100000 in
set_option maxHeartbeats 400000 in
theorem of_any (p : Option Addr) (cap : Nat) (ss : List ByteArray) (w : World) (hr : Row w p ss) :
    Calls Try.prog 28 #[.slice p ss.length cap] w fun e w' => e = .returned (.string (Pl.sum (Pl.cat ss))) ∧ Below w.heap.size w w' := by
  have hn := Pl.num_lt (Pl.cat ss)
  go_enter Try.func28, Try.ntmps28
  go_wp2_with (first | (go_at_call 52; refine (number_any _ _ _ _ hr).mono ?_; rintro e w' ⟨rfl, rfl⟩) | (go_at_call 51; refine (written_any _ _ (by omega)).mono ?_; rintro e w1 ⟨rfl, hb⟩))
  go_ret
  exact ⟨rfl, hb⟩

set_option maxRecDepth 100000 in
set_option maxHeartbeats 400000 in
theorem sum_any (p : Option Addr) (cap : Nat) (ss : List ByteArray) (w : World) (hr : Row w p ss) :
    Calls Try.prog 9 #[.slice p ss.length cap] w fun e w' => e = .returned (.string (Pl.sum (Pl.cat ss))) ∧ Below w.heap.size w w' := by
  go_enter Try.func9, Try.ntmps9
  go_wp2_with (go_at_call 28; refine (of_any _ _ _ _ hr).mono ?_; rintro e w1 ⟨rfl, hb⟩)
  go_ret
  exact ⟨rfl, hb⟩

end Go.Proofs.Ytkhnjipjbhcgdab

/-
  THE PLAIN MATHEMATICS: halves and roots.
-/
namespace Go.Proofs.Ytkhnjipjbhcgdab.Pl

/-- The greatest power of two below n (n from 2 to 64). -/
def half (n : Nat) : Nat := if n ≤ 2 then 1 else if n ≤ 4 then 2 else if n ≤ 8 then 4 else if n ≤ 16 then 8 else if n ≤ 32 then 16 else 32
theorem half_pos (n : Nat) : 0 < half n := by unfold half; split <;> (try split) <;> (try split) <;> (try split) <;> (try split) <;> omega
theorem half_lt (n : Nat) (h : 2 ≤ n) : half n < n := by unfold half; split <;> (try split) <;> (try split) <;> (try split) <;> (try split) <;> omega
theorem half_of (n k : Nat) (hk : k = 1 ∨ k = 2 ∨ k = 4 ∨ k = 8 ∨ k = 16 ∨ k = 32) (h1 : k < n) (h2 : n ≤ 2 * k) : half n = k := by
  unfold half
  rcases hk with rfl | rfl | rfl | rfl | rfl | rfl <;> (split <;> (try split) <;> (try split) <;> (try split) <;> (try split) <;> omega)

/-- The root of a row, in at most so many steps. -/
def rootF : Nat → List ByteArray → ByteArray
  | 0, _ => sum [69]
  | f + 1, ss =>
    if ss.length = 0 then sum [69]
    else if ss.length = 1 then sum (76 :: cat ss)
    else sum (78 :: ((rootF f (ss.take (half ss.length))).data.toList ++ (rootF f (ss.drop (half ss.length))).data.toList))
/-- The root of a row. -/
def root (ss : List ByteArray) : ByteArray := rootF ss.length ss
theorem rootF_eq : ∀ (f : Nat) (ss : List ByteArray), ss.length ≤ f → rootF f ss = root ss := by
  intro f
  induction f using Nat.strongRecOn with
  | ind f ih =>
    intro ss h
    unfold root
    match f, hss : ss.length with
    | 0, 0 => rfl
    | 0, n + 1 => omega
    | f + 1, 0 => simp [rootF, hss]
    | f + 1, n + 1 =>
      simp only [rootF, hss, Nat.succ_eq_add_one]
      by_cases h1 : n + 1 = 1
      · simp [h1]
      · have hp := half_pos (n + 1)
        have hl := half_lt (n + 1) (by omega)
        have e1 : (ss.take (half (n + 1))).length = half (n + 1) := by rw [List.length_take]; omega
        have e2 : (ss.drop (half (n + 1))).length = n + 1 - half (n + 1) := by rw [List.length_drop]; omega
        rw [ih f (by omega) _ (by omega), ih f (by omega) _ (by omega), ih n (by omega) _ (by omega), ih n (by omega) _ (by omega)]
theorem root_zero : root [] = sum [69] := rfl
theorem root_one (ss : List ByteArray) (h : ss.length = 1) : root ss = sum (76 :: cat ss) := by
  unfold root
  rw [h]
  simp [rootF, h]
theorem root_more (ss : List ByteArray) (h : 2 ≤ ss.length) : root ss = sum (78 :: ((root (ss.take (half ss.length))).data.toList ++ (root (ss.drop (half ss.length))).data.toList)) := by
  have hp := half_pos ss.length
  have hl := half_lt ss.length h
  obtain ⟨n, hn⟩ : ∃ n, ss.length = n + 2 := ⟨ss.length - 2, by omega⟩
  have e1 : (ss.take (half ss.length)).length = half ss.length := by rw [List.length_take]; omega
  have e2 : (ss.drop (half ss.length)).length = ss.length - half ss.length := by rw [List.length_drop]
  rw [← rootF_eq (n + 1) (ss.take (half ss.length)) (by omega), ← rootF_eq (n + 1) (ss.drop (half ss.length)) (by omega)]
  unfold root
  rw [hn]
  simp [rootF, hn]
theorem root_size (ss : List ByteArray) : (root ss).size = 4 := by
  unfold root
  cases ss.length with
  | zero => rfl
  | succ n =>
    unfold rootF
    split
    · rfl
    · split <;> rfl
end Go.Proofs.Ytkhnjipjbhcgdab.Pl
