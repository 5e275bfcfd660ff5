/-
  THE WALK of treeheadkeep.pick; sums of two bytes. It names no other function of the statements.
-/
import Derived.Test.YtkhnjipjbhcgdabTConv2
namespace Go.Proofs.Ytkhnjipjbhcgdab.Hp
open Go.RowKit

/-- Which of n things the raw number c speaks of. -/
def pickOf (c n : Int) : Int := (if c < 0 then -(c + 1) else c) % n
theorem pickOf_nonneg (c n : Int) (h : 0 < n) : 0 ≤ pickOf c n := Int.emod_nonneg _ (by omega)
theorem pickOf_lt (c n : Int) (h : 0 < n) : pickOf c n < n := Int.emod_lt_of_pos _ h
set_option maxRecDepth 100000 in
set_option maxHeartbeats 400000 in
theorem pick_any (c n : Int) (w : World) (hc : -9223372036854775808 ≤ c ∧ c ≤ 9223372036854775807) (hn : 0 < n) (hn2 : n ≤ 9223372036854775807) :
    Calls Try.prog 8 #[.int .i64 c, .int .i64 n] w fun e w' => e = .returned (.int .i64 (pickOf c n)) ∧ w' = w := by
  obtain ⟨hc1, hc2⟩ := hc
  by_cases h : c < 0
  · have hp : pickOf c n = (-(c + 1)) % n := by unfold pickOf; rw [if_pos h]
    go_enter Try.func8, Try.ntmps8
    go_wp2
    all_goals go_ret
    all_goals exact ⟨ret_int (by rw [← Int.neg_tmod, Int.tmod_eq_emod_of_nonneg (by omega), hp]), rfl⟩
  · have hp : pickOf c n = c % n := by unfold pickOf; rw [if_neg h]
    go_enter Try.func8, Try.ntmps8
    go_wp2
    all_goals go_ret
    all_goals exact ⟨rfl, rfl⟩
/-- Picked, as a natural number. -/
theorem pick_nat (c : Int) (n : Nat) (hc : -9223372036854775808 ≤ c ∧ c ≤ 9223372036854775807) (hn : 0 < n) (hn2 : n ≤ 9223372036854775807) :
    ∃ k : Nat, k < n ∧ ∀ w, Calls Try.prog 8 #[.int .i64 c, .int .i64 n] w fun e w' => e = .returned (.int .i64 k) ∧ w' = w := by
  have h0 := pickOf_nonneg c n (by omega)
  have h1 := pickOf_lt c n (by omega)
  refine ⟨(pickOf c n).toNat, by omega, fun w => ?_⟩
  have := pick_any c n w hc (by omega) (by omega)
  rwa [show pickOf c n = (((pickOf c n).toNat : Nat) : Int) by omega] at this

/-- Two bytes of a number, whatever it is. -/
def twoB (c : Int) : ByteArray := ⟨#[UInt8.ofNat (c % 256).toNat, UInt8.ofNat (c / 256 % 256).toNat]⟩
theorem twoB_conv (c : Int) (w : World) :
    (convert 25 9 (.slice (some ⟨w.heap.size, 0, none⟩) 2 2)).run Try.prog (w.alloc (.cells #[.int .u8 (c % 256), .int .u8 (c / 256 % 256)] 5)) =
      .ok (.string (twoB c)) (w.alloc (.cells #[.int .u8 (c % 256), .int .u8 (c / 256 % 256)] 5)) := by
  have h := two_bytes (c % 256).toNat (c / 256 % 256).toNat (by omega) (by omega) w
  rw [show (((c % 256).toNat : Nat) : Int) = c % 256 by omega, show (((c / 256 % 256).toNat : Nat) : Int) = c / 256 % 256 by omega] at h
  exact h
/-- The sum of one text, laid anew. -/
theorem sum_one (s : ByteArray) (w : World) (hs : s.size ≤ maxLen) :
    Calls Try.prog 9 #[.slice (some ⟨w.heap.size, 0, none⟩) 1 1] (w.alloc (.cells #[.string s] 9)) fun e w' => e = .returned (.string (Pl.sumB s)) ∧ Below w.heap.size w w' := by
  have h := sum_any (some ⟨w.heap.size, 0, none⟩) 1 [s] (w.alloc (.cells #[.string s] 9)) (row_lit w [s] (by simp [maxLen]) (fun x hx => by simp at hx; rw [hx]; exact hs))
  rw [show Pl.cat [s] = s.data.toList by simp [Pl.cat]] at h
  exact h.mono fun e w' ⟨he, hb⟩ => ⟨he, ((Below.refl _ w).alloc (Nat.le_refl _) _).trans (hb.mono (by simp))⟩
end Go.Proofs.Ytkhnjipjbhcgdab.Hp
