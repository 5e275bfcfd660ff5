import Derived.Test.YtkhnjipjbhcgdabHand
import Derived.Laws.Shifts
import Derived.Laws.Bits
import Derived.Laws.BitsLemmas
/-
  THE WALKS of sums.Is, seals.power, IsSecret, KeyOf, IsKey, two, number.
-/
namespace Go.Proofs.Ytkhnjipjbhcgdab
open Go.RowKit Hp

set_option maxRecDepth 100000 in
set_option maxHeartbeats 1000000 in
theorem tpower_any (b n : Nat) (w : World) (hb : b < 2039) (hn : n ≤ 2000) :
    Calls Try.prog 53 #[.int .i64 b, .int .i64 n] w fun e w' => e = .returned (.int .i64 (Pl.powM b n : Nat)) ∧ w' = w := by
  have HP : Hid (Pl.powM b n = b ^ n % 2039) := Pl.powM_eq b n
  go_enter Try.func53, Try.ntmps53
  go_wp2
  go_loop [0, 1, 5] (fun x y o => ∃ B K O : Nat, x = .int .i64 B ∧ y = .int .i64 K ∧ o = .int .i64 O ∧ B < 2039 ∧ O < 2039 ∧ K ≤ n ∧ Hid (O * B ^ K % 2039 = b ^ n % 2039)) (fun _ y _ => (intOf y).toNat)
  case atStart => exact ⟨b, n, 1, rfl, rfl, rfl, hb, by omega, Nat.le_refl _, by show _ = _; rw [Nat.one_mul]⟩
  case round =>
    obtain ⟨B, K, O, rfl, rfl, rfl, hB, hO, hK, HI⟩ := hrel
    by_cases hk : 0 < K
    · have m1 : (B : Int) * (B : Int) ≤ 4157521 ∧ 0 ≤ (B : Int) * (B : Int) := by
        have h2 : B * B ≤ 2039 * 2039 := Nat.mul_le_mul (by omega) (by omega)
        have h3 : ((B * B : Nat) : Int) ≤ 4157521 := by omega
        rw [Int.natCast_mul] at h3
        exact ⟨h3, Int.mul_nonneg (by omega) (by omega)⟩
      have m2 : (O : Int) * (B : Int) ≤ 4157521 ∧ 0 ≤ (O : Int) * (B : Int) := by
        have h2 : O * B ≤ 2039 * 2039 := Nat.mul_le_mul (by omega) (by omega)
        have h3 : ((O * B : Nat) : Int) ≤ 4157521 := by omega
        rw [Int.natCast_mul] at h3
        exact ⟨h3, Int.mul_nonneg (by omega) (by omega)⟩
      have HB2 : Hid (((B * B % 2039 : Nat) : Int) = (B : Int) * (B : Int) % 2039) := by
        show _ = _
        rw [Int.natCast_emod, Int.natCast_mul]; rfl
      have HO2 : Hid (((O * B % 2039 : Nat) : Int) = (O : Int) * (B : Int) % 2039) := by
        show _ = _
        rw [Int.natCast_emod, Int.natCast_mul]; rfl
      by_cases ho : K % 2 = 1
      · have hod : ((K : Int) % 2 == 1) = true := by rw [beq_iff_eq]; omega
        have HI2 : Hid ((O * B % 2039) * (B * B % 2039) ^ (K / 2) % 2039 = b ^ n % 2039) := by show _ = _; rw [Pl.sq_odd O B K ho]; exact HI.out
        clear HI
        go_wp2
        go_round
        case rel => exact ⟨B * B % 2039, K / 2, O * B % 2039, val_int HB2.out.symm, by go_num, val_int HO2.out.symm, Nat.mod_lt _ (by omega), Nat.mod_lt _ (by omega), by omega, HI2⟩
        case measure => simp [intOf]; omega
      · have hod : ((K : Int) % 2 == 1) = false := by rw [beq_eq_false_iff_ne]; omega
        have HI2 : Hid (O * (B * B % 2039) ^ (K / 2) % 2039 = b ^ n % 2039) := by show _ = _; rw [Pl.sq_even O B K (by omega)]; exact HI.out
        clear HI
        go_wp2
        go_round
        case rel => exact ⟨B * B % 2039, K / 2, O, val_int HB2.out.symm, by go_num, rfl, Nat.mod_lt _ (by omega), hO, by omega, HI2⟩
        case measure => simp [intOf]; omega
    · obtain rfl : K = 0 := by omega
      go_wp2
      go_ret
      refine ⟨ret_int ?_, rfl⟩
      have h := HI.out
      rw [Nat.pow_zero, Nat.mul_one, Nat.mod_eq_of_lt hO] at h
      rw [HP.out, h]

set_option maxRecDepth 100000 in
set_option maxHeartbeats 400000 in
theorem tkeyof_any (n : Nat) (w : World) (hn : n ≤ 2000) :
    Calls Try.prog 30 #[.int .i64 n] w fun e w' => e = .returned (.int .i64 (Pl.powM 4 n : Nat)) ∧ w' = w := by
  have HP : Hid (∀ w, Calls Try.prog 53 #[.int .i64 4, .int .i64 n] w fun e w' => e = .returned (.int .i64 (Pl.powM 4 n : Nat)) ∧ w' = w) := fun w => tpower_any 4 n w (by omega) hn
  go_enter Try.func30, Try.ntmps30
  go_wp2_with fail
  refine (HP.out _).mono ?_
  rintro e w1 ⟨rfl, rfl⟩
  go_wp2_with fail
  go_ret
  exact ⟨rfl, rfl⟩

set_option maxRecDepth 100000 in
set_option maxHeartbeats 400000 in
theorem tissecret_any (n : Int) (w : World) :
    Calls Try.prog 29 #[.int .i64 n] w fun e w' => e = .returned (.bool (decide (1 ≤ n) && decide (n ≤ 1018))) ∧ w' = w := by
  have e2 : decide (n ≤ 1018) = decide (n < 1019) := by
    by_cases h : n ≤ 1018
    · rw [decide_eq_true h, decide_eq_true (by omega)]
    · rw [decide_eq_false h, decide_eq_false (by omega)]
  rw [e2]
  by_cases h1 : 1 ≤ n
  · by_cases h2 : n < 1019
    · rw [decide_eq_true h1, decide_eq_true h2]
      go_enter Try.func29, Try.ntmps29
      go_wp2_with fail
      go_ret
      exact ⟨rfl, rfl⟩
    · rw [decide_eq_true h1, decide_eq_false h2]
      go_enter Try.func29, Try.ntmps29
      go_wp2_with fail
      go_ret
      exact ⟨rfl, rfl⟩
  · rw [decide_eq_false h1]
    go_enter Try.func29, Try.ntmps29
    go_wp2_with fail
    go_ret
    exact ⟨rfl, rfl⟩

set_option maxRecDepth 100000 in
set_option maxHeartbeats 400000 in
theorem tiskey_any (key : Int) (w : World) :
    Calls Try.prog 36 #[.int .i64 key] w fun e w' => e = .returned (.bool (Pl.keyB key)) ∧ w' = w := by
  have HK : Hid (Pl.keyB key = (decide (1 < key) && (decide (key < 2039) && decide (Pl.powM key.toNat 1019 = 1)))) := Pl.keyB_pow key
  by_cases h1 : 1 < key
  · by_cases h2 : key < 2039
    · obtain ⟨k, rfl⟩ : ∃ k : Nat, key = (k : Int) := ⟨key.toNat, by omega⟩
      have HP : Hid (∀ w, Calls Try.prog 53 #[.int .i64 k, .int .i64 1019] w fun e w' => e = .returned (.int .i64 (Pl.powM k 1019 : Nat)) ∧ w' = w) := fun w => tpower_any k 1019 w (by omega) (by omega)
      have HK2 : Hid (Pl.keyB (k : Int) = ((Pl.powM k 1019 : Int) == 1)) := by
        show _ = _
        rw [HK.out, decide_eq_true h1, decide_eq_true h2, Bool.true_and, Bool.true_and, Int.toNat_natCast, Bool.eq_iff_iff, decide_eq_true_iff, beq_iff_eq]
        omega
      clear HK
      generalize Pl.powM k 1019 = P at *
      go_enter Try.func36, Try.ntmps36
      go_wp2_with fail
      refine (HP.out _).mono ?_
      rintro e w1 ⟨rfl, rfl⟩
      go_wp2_with fail
      go_ret
      exact ⟨ret_bool HK2.out.symm, rfl⟩
    · have HF : Hid (Pl.keyB key = false) := by show _ = _; rw [HK.out]; simp [h2]
      clear HK
      go_enter Try.func36, Try.ntmps36
      go_wp2_with fail
      go_ret
      exact ⟨ret_bool HF.out.symm, rfl⟩
  · have HF : Hid (Pl.keyB key = false) := by show _ = _; rw [HK.out]; simp [h1]
    clear HK
    go_enter Try.func36, Try.ntmps36
    go_wp2_with fail
    go_ret
    exact ⟨ret_bool HF.out.symm, rfl⟩

end Go.Proofs.Ytkhnjipjbhcgdab
