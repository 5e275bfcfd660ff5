/-
  THE WALK of treeheadkeep.Summed.
-/
import Derived.Test.YtkhnjipjbhcgdaaKeep
namespace Go.Proofs.Ytkhnjipjbhcgdaa
open Go.RowKit

theorem sizes2 (S c : ByteArray) (h1 : S.size ≤ 1048576) (h2 : c.size = 1) : ∀ s ∈ [S, c], s.size ≤ maxLen := by
  intro s hs
  simp only [List.mem_cons, List.not_mem_nil, or_false] at hs
  unfold maxLen
  rcases hs with rfl | rfl <;> omega
theorem sizes1 (S c : ByteArray) (h1 : S.size ≤ 1048576) (h2 : c.size = 1) : ∀ s ∈ [S ++ c], s.size ≤ maxLen := by
  intro s hs
  simp only [List.mem_cons, List.not_mem_nil, or_false] at hs
  subst hs
  rw [ByteArray.size_append]
  unfold maxLen
  omega

set_option maxRecDepth 100000 in
set_option maxHeartbeats 1000000 in
theorem summed_some (p : Option Addr) (cap : Nat) (ss : List ByteArray) (c : Int) (w : World) (hr : Row w p ss) (hw : -9223372036854775808 ≤ c ∧ c ≤ 9223372036854775807) (hl : ss.length + (Pl.cat ss).length ≤ 1048576) :
    Calls Try.prog 11 #[.slice p ss.length cap, .int .i64 c] w fun e w' => e = .returned (.bool true) ∧ Below w.heap.size w w' := by
  obtain ⟨b, hb⟩ : ∃ b : Nat, pickOf c 256 = (b : Int) := Int.eq_ofNat_of_zero_le (pickOf_nonneg c 256 (by omega))
  have hb2 : b < 256 := by have := pickOf_lt c 256 (by omega); omega
  have hpick := fun w => pick_any c 256 w hw (by omega) (by omega)
  rw [hb] at hpick
  clear hb
  have hcv := one_byte b hb2
  have HR : Hid _ := hr
  have hlen := hr.len
  go_enter Try.func11, Try.ntmps11
  go_wp2_with fail
  go_loop [5, 6] (fun s i => ∃ k : Nat, k ≤ ss.length ∧ i = .int .i64 k ∧ s = .string (catB (ss.take k))) (fun _ i => ss.length - (intOf i).toNat)
  case atStart => exact ⟨0, by omega, rfl, rfl⟩
  case round =>
    obtain ⟨k, hk, rfl, rfl⟩ := hrel
    by_cases hlt : k < ss.length
    · rcases hr.cell with h0 | ⟨b, o, h1, _, hcell⟩
      · rw [h0] at hlt; exact absurd hlt (by simp)
      · have hck := hcell k hlt
        subst h1
        have HC : Hid _ := catB_take ss k hlt
        have hz := cat_take_le ss (k + 1)
        rw [← catB_size, HC.out, ByteArray.size_append] at hz
        have hz2 : (catB (ss.take k)).size + ss[k].size ≤ 1048576 := by omega
        clear hz hcell hr HR hpick
        generalize ss[k] = s at *
        generalize catB (ss.take k) = S at *
        go_wp2
        all_goals
          go_round
          case rel => exact ⟨k + 1, by omega, by go_num, by rw [HC.out]⟩
          case measure => simp [intOf]; omega
    · have hk2 : ss.take k = ss := List.take_of_length_le (by omega)
      rw [hk2]
      have hz : (catB ss).size ≤ 1048576 := by rw [catB_size]; omega
      have hS : (catB ss).data.toList = Pl.cat ss := catB_toList ss
      have HS : Hid _ := hS
      clear hr hS hk2
      generalize catB ss = S at *
      go_wp2_with fail
      refine (hpick _).mono ?_
      rintro e w1 ⟨rfl, rfl⟩
      clear hpick
      have hfin : ((Pl.num (Pl.cat ss ++ [UInt8.ofNat b]) : Int) == (263 * (Pl.num (Pl.cat ss) : Int) + (b : Int) + 1) % 65521) = true := by
        rw [Pl.num_snoc, byte_nat b hb2]
        simp only [beq_iff_eq]
        omega
      have hn := Pl.num_lt (Pl.cat ss)
      have hone : (⟨#[UInt8.ofNat b]⟩ : ByteArray).size = 1 := rfl
      go_wp2_with fail
      refine (sum_of p cap ss (Pl.cat ss) _ (HR.out.grow ((Below.refl _ _).alloc (Nat.le_refl _) _) (Nat.le_refl _)) rfl).mono ?_
      rintro e w2 ⟨rfl, hb1⟩
      go_wp2_with fail
      refine (sum_of (some ⟨w2.heap.size, 0, none⟩) 2 [S, ⟨#[UInt8.ofNat b]⟩] (Pl.cat ss ++ [UInt8.ofNat b]) _ (Row.lit w2 [S, ⟨#[UInt8.ofNat b]⟩] (by simp [maxLen]) (sizes2 _ _ hz hone)) (by simp [Pl.cat, HS.out])).mono ?_
      rintro e w3 ⟨rfl, hb3⟩
      go_wp2_with fail
      refine (sum_of (some ⟨w3.heap.size, 0, none⟩) 1 [S ++ ⟨#[UInt8.ofNat b]⟩] (Pl.cat ss ++ [UInt8.ofNat b]) _ (Row.lit w3 [S ++ ⟨#[UInt8.ofNat b]⟩] (by simp [maxLen]) (sizes1 _ _ hz hone)) (by simp [Pl.cat, ByteArray.data_append, HS.out])).mono ?_
      rintro e w4 ⟨rfl, hb4⟩
      go_wp2_with fail
      refine (sum_zero _).mono ?_
      rintro e w5 ⟨rfl, hb5⟩
      go_wp2_with fail
      refine (number_sum _ _).mono ?_
      rintro e w6 ⟨rfl, rfl⟩
      go_wp2_with fail
      refine (number_sum _ _).mono ?_
      rintro e w7 ⟨rfl, rfl⟩
      go_wp2
      go_ret
      refine ⟨rfl, ?_⟩
      have k1 := ((Below.refl w1.heap.size w1).alloc (Nat.le_refl _) (.cells #[.int .u8 (b : Int)] 5)).trans (hb1.mono (by simp))
      have s1 := k1.size
      have k2 := (k1.alloc s1 (.cells #[.string S, .string ⟨#[UInt8.ofNat b]⟩] 9)).trans (hb3.mono (by simp; omega))
      have s2 := k2.size
      have k3 := (k2.alloc s2 (.cells #[.string (S ++ ⟨#[UInt8.ofNat b]⟩)] 9)).trans (hb4.mono (by simp; omega))
      exact k3.trans (hb5.mono k3.size)

theorem summed_walk (v : Value) (ss : List ByteArray) (c : Int) (w : World) (hr : IsRow w v ss) (hc : -9223372036854775808 ≤ c ∧ c ≤ 9223372036854775807) (hq : ss.length + (Pl.cat ss).length ≤ 1048576) :
    Calls Try.prog 11 #[v, .int .i64 c] w fun e w' => e = .returned (.bool true) ∧ Below w.heap.size w w' := by
  rcases hr with ⟨rfl, rfl⟩ | ⟨a, cap, rfl, _, _, hr⟩
  · exact summed_some none 0 [] c w (row_nil w) hc hq
  · exact summed_some (some a) cap ss c w hr hc hq

end Go.Proofs.Ytkhnjipjbhcgdaa
