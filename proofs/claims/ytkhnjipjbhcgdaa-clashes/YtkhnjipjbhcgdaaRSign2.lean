/-
  THE WALK of treeheadref.Sign.
-/
import Derived.Test.YtkhnjipjbhcgdaaRSign
namespace Go.Proofs.Ytkhnjipjbhcgdaa
open Go.RowKit

def signOK (secret nonce size : Int) (root : ByteArray) : Prop := 1 ≤ secret ∧ secret ≤ 1018 ∧ 1 ≤ nonce ∧ nonce ≤ 1018 ∧ 0 ≤ size ∧ size ≤ 40 ∧ Pl.isSumB root = true

set_option maxRecDepth 100000 in
set_option maxHeartbeats 1000000 in
theorem rsign_no (secret nonce size : Int) (root : ByteArray) (w : World) (hrs : root.size ≤ maxLen) (h : ¬ signOK secret nonce size root) :
    Calls Try.prog 34 #[.int .i64 secret, .int .i64 nonce, .agg #[.int .i64 size, .string root]] w fun e w' => e = .returned (.tuple #[.string ⟨#[]⟩, .int .i64 1]) ∧ Below w.heap.size w w' := by
  have his := fun w => rissum_any root w hrs
  have hB0 : Below w.heap.size w (w.alloc (.cells #[.int .i64 size, .string root] 38)) := (Below.refl _ _).alloc (Nat.le_refl _) _
  have HN : Hid (¬ signOK secret nonce size root) := h
  clear h
  cases hs : Pl.isSumB root with
  | false =>
    rw [hs] at his
    go_enter Try.func34, Try.ntmps34
    go_wp2_with fail
    refine (his _).mono ?_
    rintro e w1 ⟨rfl, rfl⟩
    go_wp2_with fail
    all_goals
      go_ret2
      exact ⟨rfl, hB0⟩
  | true =>
    rw [hs] at his
    have hn : secret < 1 ∨ 1018 < secret ∨ nonce < 1 ∨ 1018 < nonce ∨ size < 0 ∨ 40 < size := by
      have h := HN.out
      unfold signOK at h
      simp only [hs, and_true] at h
      omega
    clear hs
    have HM : Hid (secret < 1 ∨ 1018 < secret ∨ nonce < 1 ∨ 1018 < nonce ∨ size < 0 ∨ 40 < size) := hn
    clear hn
    go_enter Try.func34, Try.ntmps34
    go_wp2_with fail
    refine (his _).mono ?_
    rintro e w1 ⟨rfl, rfl⟩
    go_wp2_with fail
    all_goals first | (exfalso; have h := HM.out; omega) | skip
    all_goals
      go_ret2
      exact ⟨rfl, hB0⟩

set_option maxRecDepth 100000 in
set_option maxHeartbeats 4000000 in
theorem rsign_yes (secret nonce size : Nat) (root : ByteArray) (w : World) (h : signOK secret nonce size root) :
    Calls Try.prog 34 #[.int .i64 secret, .int .i64 nonce, .agg #[.int .i64 size, .string root]] w fun e w' => e = .returned (.tuple #[.string (Pl.signT secret nonce size root), .int .i64 0]) ∧ Below w.heap.size w w' := by
  obtain ⟨h1, h2, h3, h4, _, h6, h7⟩ := h
  have hz := isSumB_size h7
  have his := fun w => rissum_any root w (by rw [hz]; decide)
  rw [h7] at his
  clear h7
  have hB0 : Below w.heap.size w (w.alloc (.cells #[.int .i64 size, .string root] 38)) := (Below.refl _ _).alloc (Nat.le_refl _) _
  have q00 : (w.alloc (.cells #[.int .i64 size, .string root] 38)).cell? ⟨w.heap.size, 0, none⟩ = some (.int .i64 size) := World.cell?_alloc_mark _ _ _ _ _
  have q01 : (w.alloc (.cells #[.int .i64 size, .string root] 38)).cell? ⟨w.heap.size, 1, none⟩ = some (.string root) := World.cell?_alloc_mark _ _ _ _ _
  have hz0 : w.heap.size < (w.alloc (.cells #[.int .i64 size, .string root] 38)).heap.size := by simp
  have HP1 : Hid (∀ w, Calls Try.prog 68 #[.int .i64 4, .int .i64 secret] w fun e w' => e = .returned (.int .i64 (Pl.powM 4 secret : Nat)) ∧ w' = w) := fun w => rpower_any 4 secret w (by omega) (by omega)
  have HP2 : Hid (∀ w, Calls Try.prog 68 #[.int .i64 4, .int .i64 nonce] w fun e w' => e = .returned (.int .i64 (Pl.powM 4 nonce : Nat)) ∧ w' = w) := fun w => rpower_any 4 nonce w (by omega) (by omega)
  have p1 := Pl.powM_lt 4 secret
  have p2 := Pl.powM_lt 4 nonce
  have HT : Hid (Pl.signT secret nonce size root = Pl.headText size root (Pl.said (Pl.powM 4 secret) (Pl.powM 4 nonce) size root) (Pl.less secret nonce (Pl.said (Pl.powM 4 secret) (Pl.powM 4 nonce) size root))) := rfl
  have HS : Hid (∀ w, Calls Try.prog 70 #[.int .i64 (Pl.powM 4 secret : Nat), .int .i64 (Pl.powM 4 nonce : Nat), .agg #[.int .i64 size, .string root]] w fun e w' => e = .returned (.int .i64 (Pl.said (Pl.powM 4 secret) (Pl.powM 4 nonce) size root : Nat)) ∧ Below w.heap.size w w') := fun w => rsaid_any _ _ size root w (by omega) (by omega) (by omega) hz
  have hc := Pl.said_lt (Pl.powM 4 secret) (Pl.powM 4 nonce) size root
  generalize Pl.said (Pl.powM 4 secret) (Pl.powM 4 nonce) size root = c at *
  go_enter Try.func34, Try.ntmps34
  go_wp2_with fail
  refine (his _).mono ?_
  rintro e w1 ⟨rfl, rfl⟩
  go_wp2_with fail
  go_region_held3 (fun w' => w'.cell? ⟨w.heap.size, 0, none⟩ = some (.int .i64 size) ∧ w'.cell? ⟨w.heap.size, 1, none⟩ = some (.string root)) (go_keep) (first
    | (go_at_call_of 68 (Value.int .i64 (secret : Int)); refine (HP1.out _).mono ?_; rintro e w2 ⟨rfl, rfl⟩)
    | (go_at_call_of 68 (Value.int .i64 (nonce : Int)); refine (HP2.out _).mono ?_; rintro e w2 ⟨rfl, rfl⟩)
    | (go_at_call 70; refine (HS.out _).mono ?_; rintro e w3 ⟨rfl, hb3⟩; obtain ⟨q30, q31, hz3⟩ := keep2 hb3 (by exact hz0) (by exact q00) (by exact q01)))
  all_goals
    have k3 : Below w.heap.size w w3 := (hB0.drew).trans (hb3.mono (by simp))
    clear hb3 q00 q01 hz0 hB0 HP1 HP2 HS his
    go_wp2_with fail
    go_loop [10, 11] (fun s i => ∃ k : Nat, k ≤ c ∧ i = .int .i64 k ∧ s = .int .i64 (Pl.less secret nonce k : Nat)) (fun _ i => c - (intOf i).toNat)
    case atStart => exact ⟨0, by omega, rfl, rfl⟩
    case round =>
      obtain ⟨k, hk, rfl, rfl⟩ := hrel
      have hlk := Pl.less_lt secret nonce k (by omega)
      by_cases hlt : k < c
      · have HL : Hid (Pl.less secret nonce (k + 1) = (Pl.less secret nonce k + 1019 - secret) % 1019) := rfl
        generalize Pl.less secret nonce k = S at *
        go_wp2_with fail
        go_round
        case rel => exact ⟨k + 1, by omega, by go_num, by rw [HL.out]; apply val_int; omega⟩
        case measure => simp [intOf]; omega
      · obtain rfl : k = c := by omega
        generalize Pl.less secret nonce k = S at *
        have z1 := Pl.two_size size
        have z2 := Pl.two_size k
        have z3 := Pl.two_size S
        have HX : Hid (Pl.headText size root k S = ⟨#[72]⟩ ++ Pl.two size ++ root ++ Pl.two k ++ Pl.two S) := rfl
        go_wp2_with fail
        go_region_held3 (fun w' => w'.cell? ⟨w.heap.size, 0, none⟩ = some (.int .i64 size) ∧ w'.cell? ⟨w.heap.size, 1, none⟩ = some (.string root)) (go_keep) (first
          | (go_at_call_of 71 (Value.int .i64 (size : Int)); refine (rtwo_any size _ (by omega)).mono ?_; rintro e w4 ⟨rfl, hb4⟩; obtain ⟨q40, q41, hz4⟩ := keep2 hb4 (by exact hz3) (by exact q30) (by exact q31))
          | (go_at_call_of 71 (Value.int .i64 (k : Int)); refine (rtwo_any k _ (by omega)).mono ?_; rintro e w5 ⟨rfl, hb5⟩; obtain ⟨q50, q51, hz5⟩ := keep2 hb5 (by exact hz4) (by exact q40) (by exact q41))
          | (go_at_call_of 71 (Value.int .i64 (S : Int)); refine (rtwo_any S _ (by omega)).mono ?_; rintro e w6 ⟨rfl, hb6⟩; obtain ⟨q60, q61, hz6⟩ := keep2 hb6 (by exact hz5) (by exact q50) (by exact q51)))
        all_goals
          go_wp2_with fail
          go_ret2
          rw [HT.out, HX.out]
          have k4 := hb4.trans (hb5.mono hb4.size)
          have k5 := k4.trans (hb6.mono k4.size)
          exact ⟨rfl, k3.drew.trans (k5.mono k3.size)⟩

theorem rsign_any (secret nonce size : Int) (root : ByteArray) (w : World) (hrs : root.size ≤ maxLen) :
    Calls Try.prog 34 #[.int .i64 secret, .int .i64 nonce, .agg #[.int .i64 size, .string root]] w fun e w' => e = .returned (.tuple #[.string (if Pl.signB secret nonce size root = true then Pl.signT secret.toNat nonce.toNat size.toNat root else ⟨#[]⟩), .int .i64 (if Pl.signB secret nonce size root = true then 0 else 1)]) ∧ Below w.heap.size w w' := by
  by_cases h : signOK secret nonce size root
  · have hb : Pl.signB secret nonce size root = true := by
      obtain ⟨h1, h2, h3, h4, h5, h6, h7⟩ := h
      simp [Pl.signB, h1, h2, h3, h4, h5, h6, h7]
    rw [if_pos hb, if_pos hb]
    obtain ⟨a, rfl⟩ := Int.eq_ofNat_of_zero_le (show 0 ≤ secret by have := h.1; omega)
    obtain ⟨b, rfl⟩ := Int.eq_ofNat_of_zero_le (show 0 ≤ nonce by have := h.2.2.1; omega)
    obtain ⟨c, rfl⟩ := Int.eq_ofNat_of_zero_le h.2.2.2.2.1
    rw [Int.toNat_natCast, Int.toNat_natCast, Int.toNat_natCast]
    exact rsign_yes a b c root w h
  · have hb : ¬ Pl.signB secret nonce size root = true := by
      intro hb
      apply h
      simp only [Pl.signB, Bool.and_eq_true, decide_eq_true_eq] at hb
      obtain ⟨⟨⟨⟨⟨⟨h1, h2⟩, h3⟩, h4⟩, h5⟩, h6⟩, h7⟩ := hb
      exact ⟨h1, h2, h3, h4, h5, h6, h7⟩
    rw [if_neg hb, if_neg hb]
    exact rsign_no secret nonce size root w hrs h

end Go.Proofs.Ytkhnjipjbhcgdaa
