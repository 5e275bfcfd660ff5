import Derived.Test.YtkhnjipjbhcgdaaGreatPlainS
import Derived.Test.YtkhnjipjbhcgdaaGreatRBoth
import Derived.Deep.RegionHeld3
/-
  THE WALKS of treeheadref.power, IsKey, two, said, Key.
-/
namespace Go.Proofs.YtkhnjipjbhcgdaaGreat
open Go.RowKit

set_option maxRecDepth 100000 in
set_option maxHeartbeats 400000 in
theorem rpower_any (b n : Nat) (w : World) (hb : b < 2039) (hn : n ≤ 2000) :
    Calls Tryz.prog 42 #[.int .i64 b, .int .i64 n] w fun e w' => e = .returned (.int .i64 (Pl.powM b n : Nat)) ∧ w' = w := by
  go_enter Tryz.func42, Tryz.ntmps42
  go_wp2
  go_loop [5, 6] (fun o i => ∃ k : Nat, k ≤ n ∧ i = .int .i64 k ∧ o = .int .i64 (Pl.powM b k : Nat)) (fun _ i => n - (intOf i).toNat)
  case atStart => exact ⟨0, by omega, rfl, rfl⟩
  case round =>
    obtain ⟨k, hk, rfl, rfl⟩ := hrel
    have hp := Pl.powM_lt b k
    by_cases hlt : k < n
    · have HS : Hid (Pl.powM b (k + 1) = Pl.powM b k * b % 2039) := rfl
      have hm : Pl.powM b k * b ≤ 2039 * 2039 := Nat.mul_le_mul (by omega) (by omega)
      have hm' : ((Pl.powM b k : Nat) : Int) * (b : Int) ≤ 4157521 := by
        have h2 : ((Pl.powM b k * b : Nat) : Int) ≤ 4157521 := by omega
        rwa [Int.natCast_mul] at h2
      have hm0 : 0 ≤ ((Pl.powM b k : Nat) : Int) * (b : Int) := Int.mul_nonneg (by omega) (by omega)
      have HC : Hid ((((Pl.powM b k * b % 2039 : Nat)) : Int) = ((Pl.powM b k : Nat) : Int) * (b : Int) % 2039) := by
        show _ = _
        rw [Int.natCast_emod, Int.natCast_mul]
        rfl
      clear hm
      generalize Pl.powM b k = P at *
      go_wp2
      go_round
      case rel => exact ⟨k + 1, by omega, by go_num, by rw [HS.out]; exact val_int HC.out.symm⟩
      case measure => simp [intOf]; omega
    · go_wp2
      go_ret
      exact ⟨ret_int (by rw [show k = n by omega]), rfl⟩

set_option maxRecDepth 100000 in
set_option maxHeartbeats 400000 in
theorem riskey_any (key : Int) (w : World) :
    Calls Tryz.prog 23 #[.int .i64 key] w fun e w' => e = .returned (.bool (Pl.keyB key)) ∧ w' = w := by
  go_enter Tryz.func23, Tryz.ntmps23
  go_wp2
  go_loop [3, 4] (fun o i => ∃ k : Nat, k ≤ 1018 ∧ i = .int .i64 ((k : Int) + 1) ∧ o = .int .i64 (Pl.powM 4 k : Nat) ∧ Hid (∀ j, 1 ≤ j → j ≤ k → ¬ (Pl.powM 4 j : Int) = key)) (fun _ i => 1019 - (intOf i).toNat)
  case atStart => exact ⟨0, by omega, rfl, rfl, fun j h1 h2 => by omega⟩
  case round =>
    obtain ⟨k, hk, rfl, rfl, HN⟩ := hrel
    have hp := Pl.powM_lt 4 k
    by_cases hlt : k < 1018
    · have HS : Hid ((Pl.powM 4 (k + 1) : Int) = (Pl.powM 4 k : Int) * 4 % 2039) := by
        show _ = _
        have h : Pl.powM 4 (k + 1) = Pl.powM 4 k * 4 % 2039 := rfl
        rw [h]
        omega
      by_cases he : (Pl.powM 4 (k + 1) : Int) = key
      · have HK : Hid (Pl.keyB key = true) := Pl.keyB_at (k + 1) (by omega) (by omega) he
        have hb : ((Pl.powM 4 k : Int) * 4 % 2039 == key) = true := by rw [← HS.out, he]; exact beq_self_eq_true key
        clear he
        generalize Pl.powM 4 k = P at *
        go_wp2
        go_ret
        exact ⟨ret_bool HK.out.symm, rfl⟩
      · have HN2 : Hid (∀ j, 1 ≤ j → j ≤ k + 1 → ¬ (Pl.powM 4 j : Int) = key) := by
          intro j h1 h2
          by_cases hj : j ≤ k
          · exact HN.out j h1 hj
          · obtain rfl : j = k + 1 := by omega
            exact he
        have hb : ((Pl.powM 4 k : Int) * 4 % 2039 == key) = false := by rw [← HS.out]; exact beq_eq_false_iff_ne.2 he
        clear he
        generalize hP : Pl.powM 4 k = P at *
        clear hP
        go_wp2
        go_round
        case rel => exact ⟨k + 1, by omega, by go_num, by rw [HS.out], HN2⟩
        case measure => simp [intOf]; omega
    · have HK : Hid (Pl.keyB key = false) := Pl.keyB_none (fun j h1 h2 => HN.out j h1 (by omega))
      go_wp2
      go_ret
      exact ⟨ret_bool HK.out.symm, rfl⟩

theorem two_bytes (a b : Nat) (ha : a < 256) (hb : b < 256) (w : World) :
    (convert 87 9 (.slice (some ⟨w.heap.size, 0, none⟩) 2 2)).run Tryz.prog (w.alloc (.cells #[.int .u8 (a : Int), .int .u8 (b : Int)] 5)) =
      .ok (.string ⟨#[UInt8.ofNat a, UInt8.ofNat b]⟩) (w.alloc (.cells #[.int .u8 (a : Int), .int .u8 (b : Int)] 5)) := by
  have e1 : ((UInt8.ofNat a).toNat : Int) = (a : Int) := by rw [byte_nat a ha]
  have e2 : ((UInt8.ofNat b).toNat : Int) = (b : Int) := by rw [byte_nat b hb]
  have h := run_convert_bytes_back (P := Tryz.prog) (w.alloc (.cells #[.int .u8 ((UInt8.ofNat a).toNat : Int), .int .u8 ((UInt8.ofNat b).toNat : Int)] 5)) 87 9 5 ⟨w.heap.size, 0, none⟩ 2 [UInt8.ofNat a, UInt8.ofNat b] Tryz.underlying87 Tryz.underlying5 Tryz.underlying9 (by
    intro j hj
    rw [add_plain, World.cell?_alloc_mark]
    match j, hj with
    | 0, _ => rfl
    | 1, _ => rfl)
  rw [e1, e2] at h
  exact h

set_option maxRecDepth 100000 in
set_option maxHeartbeats 400000 in
theorem rtwo_any (n : Nat) (w : World) (hn : n < 65536) :
    Calls Tryz.prog 43 #[.int .i64 n] w fun e w' => e = .returned (.string (Pl.two n)) ∧ Below w.heap.size w w' := by
  have hcv := two_bytes (n % 256) (n / 256) (by omega) (by omega)
  have ea : ((n % 256 : Nat) : Int) = (n : Int) % 256 := by omega
  have eb : ((n / 256 : Nat) : Int) = (n : Int) / 256 := by omega
  rw [ea, eb] at hcv
  have h1 : 0 ≤ (n : Int) % 256 ∧ (n : Int) % 256 < 256 := by omega
  have h2 : 0 ≤ (n : Int) / 256 ∧ (n : Int) / 256 < 256 := by omega
  clear ea eb
  go_enter Tryz.func43, Tryz.ntmps43
  go_wp2
  go_ret
  exact ⟨rfl, (Below.refl _ _).alloc (Nat.le_refl _) _⟩

theorem keep2 {w1 w2 : World} {k : Nat} {a b : Value} (hb : Below w1.heap.size w1 w2) (hk : k < w1.heap.size) (h0 : w1.cell? ⟨k, 0, none⟩ = some a) (h1 : w1.cell? ⟨k, 1, none⟩ = some b) :
    w2.cell? ⟨k, 0, none⟩ = some a ∧ w2.cell? ⟨k, 1, none⟩ = some b ∧ k < w2.heap.size := by
  refine ⟨by rw [hb.cell (p := ⟨k, 0, none⟩) hk]; exact h0, by rw [hb.cell (p := ⟨k, 1, none⟩) hk]; exact h1, ?_⟩
  have := hb.size
  omega

set_option maxRecDepth 100000 in
set_option maxHeartbeats 2000000 in
theorem rsaid_any (key r size : Nat) (root : ByteArray) (w : World) (hk : key < 65536) (hr : r < 65536) (hs : size < 65536) (hz : root.size = 4) :
    Calls Tryz.prog 41 #[.int .i64 key, .int .i64 r, .agg #[.int .i64 size, .string root]] w fun e w' => e = .returned (.int .i64 (Pl.said key r size root : Nat)) ∧ Below w.heap.size w w' := by
  have z1 := Pl.two_size r
  have z2 := Pl.two_size key
  have z3 := Pl.two_size size
  have HT : Hid (Pl.saidText key r size root = ⟨#[83]⟩ ++ Pl.two r ++ Pl.two key ++ Pl.two size ++ root) := rfl
  have hzz : (Pl.saidText key r size root).size ≤ maxLen := by
    rw [HT.out, ByteArray.size_append, ByteArray.size_append, ByteArray.size_append, ByteArray.size_append, z1, z2, z3]
    show 1 + 2 + 2 + 2 + root.size ≤ 9223372036854775807
    omega
  have HE : Hid (Pl.said key r size root = Pl.num (Pl.saidText key r size root).data.toList % 1019) := rfl
  have hnum := Pl.num_lt (Pl.saidText key r size root).data.toList
  have HN : Hid (∀ w, Calls Tryz.prog 45 #[.string (⟨#[83]⟩ ++ Pl.two r ++ Pl.two key ++ Pl.two size ++ root)] w fun e w' => e = .returned (.int .i64 (Pl.num (Pl.saidText key r size root).data.toList : Nat)) ∧ w' = w) := fun w => by
    rw [← HT.out]
    exact rnumber_any _ w hzz
  clear hzz
  generalize Pl.num (Pl.saidText key r size root).data.toList = N at *
  go_enter Tryz.func41, Tryz.ntmps41
  go_wp2_with fail
  have hB0 : Below w.heap.size w (w.alloc (.cells #[.int .i64 size, .string root] 59)).drew := ((Below.refl _ _).alloc (Nat.le_refl _) _).drew
  have q00 : (w.alloc (.cells #[.int .i64 size, .string root] 59)).drew.cell? ⟨w.heap.size, 0, none⟩ = some (.int .i64 size) := World.cell?_alloc_mark _ _ _ _ _
  have q01 : (w.alloc (.cells #[.int .i64 size, .string root] 59)).drew.cell? ⟨w.heap.size, 1, none⟩ = some (.string root) := World.cell?_alloc_mark _ _ _ _ _
  have hz0 : w.heap.size < (w.alloc (.cells #[.int .i64 size, .string root] 59)).drew.heap.size := by simp
  go_region_held3 (fun w' => w'.cell? ⟨w.heap.size, 0, none⟩ = some (.int .i64 size) ∧ w'.cell? ⟨w.heap.size, 1, none⟩ = some (.string root)) (go_keep) (first
    | (go_at_call_of 43 (Value.int .i64 (r : Int)); refine (rtwo_any r _ hr).mono ?_; rintro e w2 ⟨rfl, hb2⟩; obtain ⟨q20, q21, hz2⟩ := keep2 hb2 hz0 q00 q01)
    | (go_at_call_of 43 (Value.int .i64 (key : Int)); refine (rtwo_any key _ hk).mono ?_; rintro e w3 ⟨rfl, hb3⟩; obtain ⟨q30, q31, hz3⟩ := keep2 hb3 hz2 q20 q21)
    | (go_at_call_of 43 (Value.int .i64 (size : Int)); refine (rtwo_any size _ hs).mono ?_; rintro e w4 ⟨rfl, hb4⟩; obtain ⟨q40, q41, hz4⟩ := keep2 hb4 hz3 q30 q31)
    | (go_at_call 45; refine (HN.out _).mono ?_; rintro e w5 ⟨rfl, rfl⟩))
  all_goals
    go_wp2_with fail
    go_ret
    have k3 := hb2.trans (hb3.mono hb2.size)
    have k4 := k3.trans (hb4.mono k3.size)
    exact ⟨ret_int (by rw [HE.out, Int.tmod_eq_emod_of_nonneg (by omega)]; omega), hB0.trans (k4.mono (by simp))⟩


end Go.Proofs.YtkhnjipjbhcgdaaGreat

/-
  THE WALK of treeheadref.Sign.
-/
namespace Go.Proofs.YtkhnjipjbhcgdaaGreat
open Go.RowKit

def signOK (secret nonce size : Int) (root : ByteArray) : Prop := 1 ≤ secret ∧ secret ≤ 1018 ∧ 1 ≤ nonce ∧ nonce ≤ 1018 ∧ 0 ≤ size ∧ size ≤ 40 ∧ Pl.isSumB root = true

set_option maxRecDepth 100000 in
set_option maxHeartbeats 1000000 in
theorem rsign_no (secret nonce size : Int) (root : ByteArray) (w : World) (hrs : root.size ≤ maxLen) (h : ¬ signOK secret nonce size root) :
    Calls Tryz.prog 19 #[.int .i64 secret, .int .i64 nonce, .agg #[.int .i64 size, .string root]] w fun e w' => e = .returned (.tuple #[.string ⟨#[]⟩, .int .i64 1]) ∧ Below w.heap.size w w' := by
  have his := fun w => rissum_any root w hrs
  have hB0 : Below w.heap.size w (w.alloc (.cells #[.int .i64 size, .string root] 59)) := (Below.refl _ _).alloc (Nat.le_refl _) _
  have HN : Hid (¬ signOK secret nonce size root) := h
  clear h
  cases hs : Pl.isSumB root with
  | false =>
    rw [hs] at his
    go_enter Tryz.func19, Tryz.ntmps19
    go_wp2_with fail
    refine (his _).mono ?_
    rintro e w1 ⟨rfl, rfl⟩
    go_wp2_with fail
    all_goals
      go_ret2
      exact ⟨rfl, hB0⟩
  | true =>
    rw [hs] at his
    have hn : secret < 1 ∨ 1018 < secret ∨ nonce < 1 ∨ 1018 < nonce ∨ size < 0 ∨ 40 < size := by
      have h := HN.out
      unfold signOK at h
      simp only [hs, and_true] at h
      omega
    clear hs
    have HM : Hid (secret < 1 ∨ 1018 < secret ∨ nonce < 1 ∨ 1018 < nonce ∨ size < 0 ∨ 40 < size) := hn
    clear hn
    go_enter Tryz.func19, Tryz.ntmps19
    go_wp2_with fail
    refine (his _).mono ?_
    rintro e w1 ⟨rfl, rfl⟩
    go_wp2_with fail
    all_goals first | (exfalso; have h := HM.out; omega) | skip
    all_goals
      go_ret2
      exact ⟨rfl, hB0⟩

set_option maxRecDepth 100000 in
set_option maxHeartbeats 4000000 in
theorem rsign_yes (secret nonce size : Nat) (root : ByteArray) (w : World) (h : signOK secret nonce size root) :
    Calls Tryz.prog 19 #[.int .i64 secret, .int .i64 nonce, .agg #[.int .i64 size, .string root]] w fun e w' => e = .returned (.tuple #[.string (Pl.signT secret nonce size root), .int .i64 0]) ∧ Below w.heap.size w w' := by
  obtain ⟨h1, h2, h3, h4, _, h6, h7⟩ := h
  have hz := isSumB_size h7
  have his := fun w => rissum_any root w (by rw [hz]; decide)
  rw [h7] at his
  clear h7
  have hB0 : Below w.heap.size w (w.alloc (.cells #[.int .i64 size, .string root] 59)) := (Below.refl _ _).alloc (Nat.le_refl _) _
  have q00 : (w.alloc (.cells #[.int .i64 size, .string root] 59)).cell? ⟨w.heap.size, 0, none⟩ = some (.int .i64 size) := World.cell?_alloc_mark _ _ _ _ _
  have q01 : (w.alloc (.cells #[.int .i64 size, .string root] 59)).cell? ⟨w.heap.size, 1, none⟩ = some (.string root) := World.cell?_alloc_mark _ _ _ _ _
  have hz0 : w.heap.size < (w.alloc (.cells #[.int .i64 size, .string root] 59)).heap.size := by simp
  have HP1 : Hid (∀ w, Calls Tryz.prog 42 #[.int .i64 4, .int .i64 secret] w fun e w' => e = .returned (.int .i64 (Pl.powM 4 secret : Nat)) ∧ w' = w) := fun w => rpower_any 4 secret w (by omega) (by omega)
  have HP2 : Hid (∀ w, Calls Tryz.prog 42 #[.int .i64 4, .int .i64 nonce] w fun e w' => e = .returned (.int .i64 (Pl.powM 4 nonce : Nat)) ∧ w' = w) := fun w => rpower_any 4 nonce w (by omega) (by omega)
  have p1 := Pl.powM_lt 4 secret
  have p2 := Pl.powM_lt 4 nonce
  have HT : Hid (Pl.signT secret nonce size root = Pl.headText size root (Pl.said (Pl.powM 4 secret) (Pl.powM 4 nonce) size root) (Pl.less secret nonce (Pl.said (Pl.powM 4 secret) (Pl.powM 4 nonce) size root))) := rfl
  have HS : Hid (∀ w, Calls Tryz.prog 41 #[.int .i64 (Pl.powM 4 secret : Nat), .int .i64 (Pl.powM 4 nonce : Nat), .agg #[.int .i64 size, .string root]] w fun e w' => e = .returned (.int .i64 (Pl.said (Pl.powM 4 secret) (Pl.powM 4 nonce) size root : Nat)) ∧ Below w.heap.size w w') := fun w => rsaid_any _ _ size root w (by omega) (by omega) (by omega) hz
  have hc := Pl.said_lt (Pl.powM 4 secret) (Pl.powM 4 nonce) size root
  generalize Pl.said (Pl.powM 4 secret) (Pl.powM 4 nonce) size root = c at *
  go_enter Tryz.func19, Tryz.ntmps19
  go_wp2_with fail
  refine (his _).mono ?_
  rintro e w1 ⟨rfl, rfl⟩
  go_wp2_with fail
  go_region_held3 (fun w' => w'.cell? ⟨w.heap.size, 0, none⟩ = some (.int .i64 size) ∧ w'.cell? ⟨w.heap.size, 1, none⟩ = some (.string root)) (go_keep) (first
    | (go_at_call_of 42 (Value.int .i64 (secret : Int)); refine (HP1.out _).mono ?_; rintro e w2 ⟨rfl, rfl⟩)
    | (go_at_call_of 42 (Value.int .i64 (nonce : Int)); refine (HP2.out _).mono ?_; rintro e w2 ⟨rfl, rfl⟩)
    | (go_at_call 41; refine (HS.out _).mono ?_; rintro e w3 ⟨rfl, hb3⟩; obtain ⟨q30, q31, hz3⟩ := keep2 hb3 (by exact hz0) (by exact q00) (by exact q01)))
  all_goals
    have k3 : Below w.heap.size w w3 := (hB0.drew).trans (hb3.mono (by simp))
    clear hb3 q00 q01 hz0 hB0 HP1 HP2 HS his
    go_wp2_with fail
    go_loop [10, 11] (fun s i => ∃ k : Nat, k ≤ c ∧ i = .int .i64 k ∧ s = .int .i64 (Pl.less secret nonce k : Nat)) (fun _ i => c - (intOf i).toNat)
    case atStart => exact ⟨0, by omega, rfl, rfl⟩
    case round =>
      obtain ⟨k, hk, rfl, rfl⟩ := hrel
      have hlk := Pl.less_lt secret nonce k (by omega)
      by_cases hlt : k < c
      · have HL : Hid (Pl.less secret nonce (k + 1) = (Pl.less secret nonce k + 1019 - secret) % 1019) := rfl
        generalize Pl.less secret nonce k = S at *
        go_wp2_with fail
        go_round
        case rel => exact ⟨k + 1, by omega, by go_num, by rw [HL.out]; apply val_int; omega⟩
        case measure => simp [intOf]; omega
      · obtain rfl : k = c := by omega
        generalize Pl.less secret nonce k = S at *
        have z1 := Pl.two_size size
        have z2 := Pl.two_size k
        have z3 := Pl.two_size S
        have HX : Hid (Pl.headText size root k S = ⟨#[72]⟩ ++ Pl.two size ++ root ++ Pl.two k ++ Pl.two S) := rfl
        go_wp2_with fail
        go_region_held3 (fun w' => w'.cell? ⟨w.heap.size, 0, none⟩ = some (.int .i64 size) ∧ w'.cell? ⟨w.heap.size, 1, none⟩ = some (.string root)) (go_keep) (first
          | (go_at_call_of 43 (Value.int .i64 (size : Int)); refine (rtwo_any size _ (by omega)).mono ?_; rintro e w4 ⟨rfl, hb4⟩; obtain ⟨q40, q41, hz4⟩ := keep2 hb4 (by exact hz3) (by exact q30) (by exact q31))
          | (go_at_call_of 43 (Value.int .i64 (k : Int)); refine (rtwo_any k _ (by omega)).mono ?_; rintro e w5 ⟨rfl, hb5⟩; obtain ⟨q50, q51, hz5⟩ := keep2 hb5 (by exact hz4) (by exact q40) (by exact q41))
          | (go_at_call_of 43 (Value.int .i64 (S : Int)); refine (rtwo_any S _ (by omega)).mono ?_; rintro e w6 ⟨rfl, hb6⟩; obtain ⟨q60, q61, hz6⟩ := keep2 hb6 (by exact hz5) (by exact q50) (by exact q51)))
        all_goals
          go_wp2_with fail
          go_ret2
          rw [HT.out, HX.out]
          have k4 := hb4.trans (hb5.mono hb4.size)
          have k5 := k4.trans (hb6.mono k4.size)
          exact ⟨rfl, k3.drew.trans (k5.mono k3.size)⟩

theorem rsign_any (secret nonce size : Int) (root : ByteArray) (w : World) (hrs : root.size ≤ maxLen) :
    Calls Tryz.prog 19 #[.int .i64 secret, .int .i64 nonce, .agg #[.int .i64 size, .string root]] w fun e w' => e = .returned (.tuple #[.string (if Pl.signB secret nonce size root = true then Pl.signT secret.toNat nonce.toNat size.toNat root else ⟨#[]⟩), .int .i64 (if Pl.signB secret nonce size root = true then 0 else 1)]) ∧ Below w.heap.size w w' := by
  by_cases h : signOK secret nonce size root
  · have hb : Pl.signB secret nonce size root = true := by
      obtain ⟨h1, h2, h3, h4, h5, h6, h7⟩ := h
      simp [Pl.signB, h1, h2, h3, h4, h5, h6, h7]
    rw [if_pos hb, if_pos hb]
    obtain ⟨a, rfl⟩ := Int.eq_ofNat_of_zero_le (show 0 ≤ secret by have := h.1; omega)
    obtain ⟨b, rfl⟩ := Int.eq_ofNat_of_zero_le (show 0 ≤ nonce by have := h.2.2.1; omega)
    obtain ⟨c, rfl⟩ := Int.eq_ofNat_of_zero_le h.2.2.2.2.1
    rw [Int.toNat_natCast, Int.toNat_natCast, Int.toNat_natCast]
    exact rsign_yes a b c root w h
  · have hb : ¬ Pl.signB secret nonce size root = true := by
      intro hb
      apply h
      simp only [Pl.signB, Bool.and_eq_true, decide_eq_true_eq] at hb
      obtain ⟨⟨⟨⟨⟨⟨h1, h2⟩, h3⟩, h4⟩, h5⟩, h6⟩, h7⟩ := hb
      exact ⟨h1, h2, h3, h4, h5, h6, h7⟩
    rw [if_neg hb, if_neg hb]
    exact rsign_no secret nonce size root w hrs h

end Go.Proofs.YtkhnjipjbhcgdaaGreat
