/-
  THE WALKS of treeheadref.power, IsKey, two, said, Key.
-/
import Derived.Test.YtkhnjipjbhcgdaaPlainS
import Derived.Test.YtkhnjipjbhcgdaaRCheck
import Derived.Deep.RegionHeld3
namespace Go.Proofs.Ytkhnjipjbhcgdaa
open Go.RowKit

set_option maxRecDepth 100000 in
set_option maxHeartbeats 400000 in
theorem rpower_any (b n : Nat) (w : World) (hb : b < 2039) (hn : n ≤ 2000) :
    Calls Try.prog 68 #[.int .i64 b, .int .i64 n] w fun e w' => e = .returned (.int .i64 (Pl.powM b n : Nat)) ∧ w' = w := by
  go_enter Try.func68, Try.ntmps68
  go_wp2
  go_loop [5, 6] (fun o i => ∃ k : Nat, k ≤ n ∧ i = .int .i64 k ∧ o = .int .i64 (Pl.powM b k : Nat)) (fun _ i => n - (intOf i).toNat)
  case atStart => exact ⟨0, by omega, rfl, rfl⟩
  case round =>
    obtain ⟨k, hk, rfl, rfl⟩ := hrel
    have hp := Pl.powM_lt b k
    by_cases hlt : k < n
    · have HS : Hid (Pl.powM b (k + 1) = Pl.powM b k * b % 2039) := rfl
      have hm : Pl.powM b k * b ≤ 2039 * 2039 := Nat.mul_le_mul (by omega) (by omega)
      have hm' : ((Pl.powM b k : Nat) : Int) * (b : Int) ≤ 4157521 := by
        have h2 : ((Pl.powM b k * b : Nat) : Int) ≤ 4157521 := by omega
        rwa [Int.natCast_mul] at h2
      have hm0 : 0 ≤ ((Pl.powM b k : Nat) : Int) * (b : Int) := Int.mul_nonneg (by omega) (by omega)
      have HC : Hid ((((Pl.powM b k * b % 2039 : Nat)) : Int) = ((Pl.powM b k : Nat) : Int) * (b : Int) % 2039) := by
        show _ = _
        rw [Int.natCast_emod, Int.natCast_mul]
        rfl
      clear hm
      generalize Pl.powM b k = P at *
      go_wp2
      go_round
      case rel => exact ⟨k + 1, by omega, by go_num, by rw [HS.out]; exact val_int HC.out.symm⟩
      case measure => simp [intOf]; omega
    · go_wp2
      go_ret
      exact ⟨ret_int (by rw [show k = n by omega]), rfl⟩

set_option maxRecDepth 100000 in
set_option maxHeartbeats 400000 in
theorem riskey_any (key : Int) (w : World) :
    Calls Try.prog 72 #[.int .i64 key] w fun e w' => e = .returned (.bool (Pl.keyB key)) ∧ w' = w := by
  go_enter Try.func72, Try.ntmps72
  go_wp2
  go_loop [3, 4] (fun o i => ∃ k : Nat, k ≤ 1018 ∧ i = .int .i64 ((k : Int) + 1) ∧ o = .int .i64 (Pl.powM 4 k : Nat) ∧ Hid (∀ j, 1 ≤ j → j ≤ k → ¬ (Pl.powM 4 j : Int) = key)) (fun _ i => 1019 - (intOf i).toNat)
  case atStart => exact ⟨0, by omega, rfl, rfl, fun j h1 h2 => by omega⟩
  case round =>
    obtain ⟨k, hk, rfl, rfl, HN⟩ := hrel
    have hp := Pl.powM_lt 4 k
    by_cases hlt : k < 1018
    · have HS : Hid ((Pl.powM 4 (k + 1) : Int) = (Pl.powM 4 k : Int) * 4 % 2039) := by
        show _ = _
        have h : Pl.powM 4 (k + 1) = Pl.powM 4 k * 4 % 2039 := rfl
        rw [h]
        omega
      by_cases he : (Pl.powM 4 (k + 1) : Int) = key
      · have HK : Hid (Pl.keyB key = true) := Pl.keyB_at (k + 1) (by omega) (by omega) he
        have hb : ((Pl.powM 4 k : Int) * 4 % 2039 == key) = true := by rw [← HS.out, he]; exact beq_self_eq_true key
        clear he
        generalize Pl.powM 4 k = P at *
        go_wp2
        go_ret
        exact ⟨ret_bool HK.out.symm, rfl⟩
      · have HN2 : Hid (∀ j, 1 ≤ j → j ≤ k + 1 → ¬ (Pl.powM 4 j : Int) = key) := by
          intro j h1 h2
          by_cases hj : j ≤ k
          · exact HN.out j h1 hj
          · obtain rfl : j = k + 1 := by omega
            exact he
        have hb : ((Pl.powM 4 k : Int) * 4 % 2039 == key) = false := by rw [← HS.out]; exact beq_eq_false_iff_ne.2 he
        clear he
        generalize hP : Pl.powM 4 k = P at *
        clear hP
        go_wp2
        go_round
        case rel => exact ⟨k + 1, by omega, by go_num, by rw [HS.out], HN2⟩
        case measure => simp [intOf]; omega
    · have HK : Hid (Pl.keyB key = false) := Pl.keyB_none (fun j h1 h2 => HN.out j h1 (by omega))
      go_wp2
      go_ret
      exact ⟨ret_bool HK.out.symm, rfl⟩

theorem two_bytes (a b : Nat) (ha : a < 256) (hb : b < 256) (w : World) :
    (convert 60 9 (.slice (some ⟨w.heap.size, 0, none⟩) 2 2)).run Try.prog (w.alloc (.cells #[.int .u8 (a : Int), .int .u8 (b : Int)] 5)) =
      .ok (.string ⟨#[UInt8.ofNat a, UInt8.ofNat b]⟩) (w.alloc (.cells #[.int .u8 (a : Int), .int .u8 (b : Int)] 5)) := by
  have e1 : ((UInt8.ofNat a).toNat : Int) = (a : Int) := by rw [byte_nat a ha]
  have e2 : ((UInt8.ofNat b).toNat : Int) = (b : Int) := by rw [byte_nat b hb]
  have h := run_convert_bytes_back (P := Try.prog) (w.alloc (.cells #[.int .u8 ((UInt8.ofNat a).toNat : Int), .int .u8 ((UInt8.ofNat b).toNat : Int)] 5)) 60 9 5 ⟨w.heap.size, 0, none⟩ 2 [UInt8.ofNat a, UInt8.ofNat b] Try.underlying60 Try.underlying5 Try.underlying9 (by
    intro j hj
    rw [add_plain, World.cell?_alloc_mark]
    match j, hj with
    | 0, _ => rfl
    | 1, _ => rfl)
  rw [e1, e2] at h
  exact h

set_option maxRecDepth 100000 in
set_option maxHeartbeats 400000 in
theorem rtwo_any (n : Nat) (w : World) (hn : n < 65536) :
    Calls Try.prog 71 #[.int .i64 n] w fun e w' => e = .returned (.string (Pl.two n)) ∧ Below w.heap.size w w' := by
  have hcv := two_bytes (n % 256) (n / 256) (by omega) (by omega)
  have ea : ((n % 256 : Nat) : Int) = (n : Int) % 256 := by omega
  have eb : ((n / 256 : Nat) : Int) = (n : Int) / 256 := by omega
  rw [ea, eb] at hcv
  have h1 : 0 ≤ (n : Int) % 256 ∧ (n : Int) % 256 < 256 := by omega
  have h2 : 0 ≤ (n : Int) / 256 ∧ (n : Int) / 256 < 256 := by omega
  clear ea eb
  go_enter Try.func71, Try.ntmps71
  go_wp2
  go_ret
  exact ⟨rfl, (Below.refl _ _).alloc (Nat.le_refl _) _⟩

theorem keep2 {w1 w2 : World} {k : Nat} {a b : Value} (hb : Below w1.heap.size w1 w2) (hk : k < w1.heap.size) (h0 : w1.cell? ⟨k, 0, none⟩ = some a) (h1 : w1.cell? ⟨k, 1, none⟩ = some b) :
    w2.cell? ⟨k, 0, none⟩ = some a ∧ w2.cell? ⟨k, 1, none⟩ = some b ∧ k < w2.heap.size := by
  refine ⟨by rw [hb.cell (p := ⟨k, 0, none⟩) hk]; exact h0, by rw [hb.cell (p := ⟨k, 1, none⟩) hk]; exact h1, ?_⟩
  have := hb.size
  omega

set_option maxRecDepth 100000 in
set_option maxHeartbeats 2000000 in
theorem rsaid_any (key r size : Nat) (root : ByteArray) (w : World) (hk : key < 65536) (hr : r < 65536) (hs : size < 65536) (hz : root.size = 4) :
    Calls Try.prog 70 #[.int .i64 key, .int .i64 r, .agg #[.int .i64 size, .string root]] w fun e w' => e = .returned (.int .i64 (Pl.said key r size root : Nat)) ∧ Below w.heap.size w w' := by
  have z1 := Pl.two_size r
  have z2 := Pl.two_size key
  have z3 := Pl.two_size size
  have HT : Hid (Pl.saidText key r size root = ⟨#[83]⟩ ++ Pl.two r ++ Pl.two key ++ Pl.two size ++ root) := rfl
  have hzz : (Pl.saidText key r size root).size ≤ maxLen := by
    rw [HT.out, ByteArray.size_append, ByteArray.size_append, ByteArray.size_append, ByteArray.size_append, z1, z2, z3]
    show 1 + 2 + 2 + 2 + root.size ≤ 9223372036854775807
    omega
  have HE : Hid (Pl.said key r size root = Pl.num (Pl.saidText key r size root).data.toList % 1019) := rfl
  have hnum := Pl.num_lt (Pl.saidText key r size root).data.toList
  have HN : Hid (∀ w, Calls Try.prog 48 #[.string (⟨#[83]⟩ ++ Pl.two r ++ Pl.two key ++ Pl.two size ++ root)] w fun e w' => e = .returned (.int .i64 (Pl.num (Pl.saidText key r size root).data.toList : Nat)) ∧ w' = w) := fun w => by
    rw [← HT.out]
    exact rnumber_any _ w hzz
  clear hzz
  generalize Pl.num (Pl.saidText key r size root).data.toList = N at *
  go_enter Try.func70, Try.ntmps70
  go_wp2_with fail
  have hB0 : Below w.heap.size w (w.alloc (.cells #[.int .i64 size, .string root] 38)).drew := ((Below.refl _ _).alloc (Nat.le_refl _) _).drew
  have q00 : (w.alloc (.cells #[.int .i64 size, .string root] 38)).drew.cell? ⟨w.heap.size, 0, none⟩ = some (.int .i64 size) := World.cell?_alloc_mark _ _ _ _ _
  have q01 : (w.alloc (.cells #[.int .i64 size, .string root] 38)).drew.cell? ⟨w.heap.size, 1, none⟩ = some (.string root) := World.cell?_alloc_mark _ _ _ _ _
  have hz0 : w.heap.size < (w.alloc (.cells #[.int .i64 size, .string root] 38)).drew.heap.size := by simp
  go_region_held3 (fun w' => w'.cell? ⟨w.heap.size, 0, none⟩ = some (.int .i64 size) ∧ w'.cell? ⟨w.heap.size, 1, none⟩ = some (.string root)) (go_keep) (first
    | (go_at_call_of 71 (Value.int .i64 (r : Int)); refine (rtwo_any r _ hr).mono ?_; rintro e w2 ⟨rfl, hb2⟩; obtain ⟨q20, q21, hz2⟩ := keep2 hb2 hz0 q00 q01)
    | (go_at_call_of 71 (Value.int .i64 (key : Int)); refine (rtwo_any key _ hk).mono ?_; rintro e w3 ⟨rfl, hb3⟩; obtain ⟨q30, q31, hz3⟩ := keep2 hb3 hz2 q20 q21)
    | (go_at_call_of 71 (Value.int .i64 (size : Int)); refine (rtwo_any size _ hs).mono ?_; rintro e w4 ⟨rfl, hb4⟩; obtain ⟨q40, q41, hz4⟩ := keep2 hb4 hz3 q30 q31)
    | (go_at_call 48; refine (HN.out _).mono ?_; rintro e w5 ⟨rfl, rfl⟩))
  all_goals
    go_wp2_with fail
    go_ret
    have k3 := hb2.trans (hb3.mono hb2.size)
    have k4 := k3.trans (hb4.mono k3.size)
    exact ⟨ret_int (by rw [HE.out, Int.tmod_eq_emod_of_nonneg (by omega)]; omega), hB0.trans (k4.mono (by simp))⟩

set_option maxRecDepth 100000 in
set_option maxHeartbeats 400000 in
theorem rkey_any (secret : Int) (w : World) :
    Calls Try.prog 33 #[.int .i64 secret] w fun e w' => e = .returned (if 1 ≤ secret ∧ secret ≤ 1018 then .tuple #[.int .i64 (Pl.powM 4 secret.toNat : Nat), .int .i64 0] else .tuple #[.int .i64 0, .int .i64 1]) ∧ w' = w := by
  by_cases h : 1 ≤ secret ∧ secret ≤ 1018
  · rw [if_pos h]
    obtain ⟨n, rfl⟩ := Int.eq_ofNat_of_zero_le (show 0 ≤ secret by omega)
    rw [Int.toNat_natCast]
    have hp := fun w => rpower_any 4 n w (by omega) (by omega)
    obtain ⟨h1, h2⟩ := h
    go_enter Try.func33, Try.ntmps33
    go_wp2_with fail
    refine (hp _).mono ?_
    rintro e w1 ⟨rfl, rfl⟩
    go_wp2_with fail
    go_ret2
    exact ⟨rfl, rfl⟩
  · rw [if_neg h]
    by_cases h1 : secret < 1
    · clear h
      go_enter Try.func33, Try.ntmps33
      go_wp2_with fail
      go_ret2
      exact ⟨rfl, rfl⟩
    · have h2 : 1018 < secret := by omega
      clear h
      go_enter Try.func33, Try.ntmps33
      go_wp2_with fail
      go_ret2
      exact ⟨rfl, rfl⟩

end Go.Proofs.Ytkhnjipjbhcgdaa
