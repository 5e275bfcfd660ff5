/-
  THE WALK of treeheadkeep.Known: its first and its third part.
-/
import Derived.Test.YtkhnjipjbhcgdaaTOpen
import Derived.Test.YtkhnjipjbhcgdaaKRows
import Derived.Test.YtkhnjipjbhcgdaaOpen2
namespace Go.Proofs.Ytkhnjipjbhcgdaa
open Go.RowKit

def kA : ByteArray := ⟨#[97]⟩
def kB : ByteArray := ⟨#[98]⟩
def kC : ByteArray := ⟨#[99]⟩

set_option maxRecDepth 100000 in
set_option maxHeartbeats 2000000 in
theorem known_0 (c : Int) (w : World) (h : Fits c) (hp : pickOf c 3 = 0) :
    Calls Try.prog 10 #[.int .i64 c] w fun e w' => e = .returned (.bool true) ∧ Below w.heap.size w w' := by
  have HP : Hid _ := fun w => pick_any c 3 w h (by omega) (by omega)
  rw [hp] at HP
  have H0 : Hid (∀ w, Calls Try.prog 18 #[.slice none 0 0] w fun e w' => e = .returned (.tuple #[.string ⟨#[48, 49, 52, 100]⟩, .int .i64 0]) ∧ Below w.heap.size w w') := fun w => troot_to none 0 0 [] _ w rfl (Nat.le_refl _) (by omega) (row_nil w) (by omega) (by simp) (by decide +kernel)
  have H1 : Hid (∀ w, Calls Try.prog 15 #[.slice (some ⟨w.heap.size, 0, none⟩) 1 1] (w.alloc (.cells #[.string ⟨#[69]⟩] 9)) fun e w' => e = .returned (.string ⟨#[48, 49, 52, 100]⟩) ∧ Below w.heap.size w w') := fun w => new_sum [⟨#[69]⟩] _ w (by simp) (lit1 (by decide)) (by decide +kernel)
  have H2 : Hid (∀ w, Calls Try.prog 18 #[.slice (some ⟨w.heap.size, 0, none⟩) 1 1] (w.alloc (.cells #[.string ⟨#[97]⟩] 9)) fun e w' => e = .returned (.tuple #[.string (Pl.root [kA]), .int .i64 0]) ∧ Below w.heap.size w w') := fun w => new_root [kA] _ w (by simp) (by decide) rfl
  have H3 : Hid (∀ w, Calls Try.prog 15 #[.slice (some ⟨w.heap.size, 0, none⟩) 1 1] (w.alloc (.cells #[.string ⟨#[76, 97]⟩] 9)) fun e w' => e = .returned (.string (Pl.root [kA])) ∧ Below w.heap.size w w') := fun w => new_sum [⟨#[76, 97]⟩] _ w (by simp) (lit1 (by decide)) (by decide +kernel)
  have H4 : Hid (∀ w, Calls Try.prog 18 #[.slice (some ⟨w.heap.size, 0, none⟩) 2 2] (w.alloc (.cells #[.string ⟨#[97]⟩, .string ⟨#[98]⟩] 9)) fun e w' => e = .returned (.tuple #[.string (Pl.root [kA, kB]), .int .i64 0]) ∧ Below w.heap.size w w') := fun w => new_root [kA, kB] _ w (by simp) (by decide) rfl
  have H5 : Hid (∀ w, Calls Try.prog 18 #[.slice (some ⟨w.heap.size, 0, none⟩) 1 1] (w.alloc (.cells #[.string ⟨#[99]⟩] 9)) fun e w' => e = .returned (.tuple #[.string (Pl.root [kC]), .int .i64 0]) ∧ Below w.heap.size w w') := fun w => new_root [kC] _ w (by simp) (by decide) rfl
  have H6 : Hid (∀ w, Calls Try.prog 18 #[.slice (some ⟨w.heap.size, 0, none⟩) 3 3] (w.alloc (.cells #[.string ⟨#[97]⟩, .string ⟨#[98]⟩, .string ⟨#[99]⟩] 9)) fun e w' => e = .returned (.tuple #[.string (Pl.root [kA, kB, kC]), .int .i64 0]) ∧ Below w.heap.size w w') := fun w => new_root [kA, kB, kC] _ w (by simp) (by decide) rfl
  have H7 : Hid (∀ w, Calls Try.prog 15 #[.slice (some ⟨w.heap.size, 0, none⟩) 3 3] (w.alloc (.cells #[.string ⟨#[78]⟩, .string (Pl.root [kA, kB]), .string (Pl.root [kC])] 9)) fun e w' => e = .returned (.string (Pl.root [kA, kB, kC])) ∧ Below w.heap.size w w') := fun w => new_sum [⟨#[78]⟩, Pl.root [kA, kB], Pl.root [kC]] _ w (by simp) (lit3 (by decide) (root_le _) (root_le _)) (by decide +kernel)
  generalize Pl.root [kA] = R1 at *
  generalize Pl.root [kA, kB] = R2 at *
  generalize Pl.root [kC] = R3 at *
  generalize Pl.root [kA, kB, kC] = R4 at *
  clear hp
  go_enter Try.func10, Try.ntmps10
  go_wp2_with fail
  refine (HP.out _).mono ?_
  rintro e w1 ⟨rfl, rfl⟩
  go_wp2_with fail
  refine (H0.out _).mono ?_
  rintro e w2 ⟨rfl, b2⟩
  go_wp2_with fail
  refine (H1.out _).mono ?_
  rintro e w3 ⟨rfl, b3⟩
  have k3 := b2.trans (b3.mono b2.size)
  clear b2 b3
  go_wp2_with fail
  refine (H2.out _).mono ?_
  rintro e w4 ⟨rfl, b4⟩
  have k4 := k3.trans (b4.mono k3.size)
  clear b4 k3
  go_wp2_with fail
  refine (H3.out _).mono ?_
  rintro e w5 ⟨rfl, b5⟩
  have k5 := k4.trans (b5.mono k4.size)
  clear b5 k4
  go_wp2_with fail
  refine (H4.out _).mono ?_
  rintro e w6 ⟨rfl, b6⟩
  have k6 := k5.trans (b6.mono k5.size)
  clear b6 k5
  go_wp2_with fail
  refine (H5.out _).mono ?_
  rintro e w7 ⟨rfl, b7⟩
  have k7 := k6.trans (b7.mono k6.size)
  clear b7 k6
  go_wp2_with fail
  refine (H6.out _).mono ?_
  rintro e w8 ⟨rfl, b8⟩
  have k8 := k7.trans (b8.mono k7.size)
  clear b8 k7
  go_wp2_with fail
  refine (H7.out _).mono ?_
  rintro e w9 ⟨rfl, b9⟩
  have k9 := k8.trans (b9.mono k8.size)
  clear b9 k8
  go_wp2_with fail
  go_ret
  exact ⟨rfl, k9⟩

theorem key_at (n k : Nat) (h1 : 1 ≤ n) (h2 : n ≤ 1018) (he : Pl.powM 4 n = k) : keyAns (n : Int) = .tuple #[.int .i64 (k : Nat), .int .i64 0] := by
  unfold keyAns
  rw [if_pos ⟨by omega, by omega⟩, Int.toNat_natCast, he]

set_option maxRecDepth 100000 in
set_option maxHeartbeats 2000000 in
theorem known_2 (c : Int) (w : World) (h : Fits c) (hp : pickOf c 3 = 2) :
    Calls Try.prog 10 #[.int .i64 c] w fun e w' => e = .returned (.bool true) ∧ Below w.heap.size w w' := by
  have HP : Hid _ := fun w => pick_any c 3 w h (by omega) (by omega)
  rw [hp] at HP
  have H1 : Hid (∀ w, Calls Try.prog 29 #[.int .i64 1] w fun e w' => e = .returned (.tuple #[.int .i64 4, .int .i64 0]) ∧ Below w.heap.size w w') := fun w => by
    have := tkey_any 1 w
    rwa [show keyAns 1 = .tuple #[.int .i64 4, .int .i64 0] from key_at 1 4 (by omega) (by omega) (by decide +kernel)] at this
  have H2 : Hid (∀ w, Calls Try.prog 29 #[.int .i64 2] w fun e w' => e = .returned (.tuple #[.int .i64 16, .int .i64 0]) ∧ Below w.heap.size w w') := fun w => by
    have := tkey_any 2 w
    rwa [show keyAns 2 = .tuple #[.int .i64 16, .int .i64 0] from key_at 2 16 (by omega) (by omega) (by decide +kernel)] at this
  have H3 : Hid (∀ w, Calls Try.prog 29 #[.int .i64 1018] w fun e w' => e = .returned (.tuple #[.int .i64 510, .int .i64 0]) ∧ Below w.heap.size w w') := fun w => by
    have := tkey_any 1018 w
    rwa [show keyAns 1018 = .tuple #[.int .i64 510, .int .i64 0] from key_at 1018 510 (by omega) (by omega) (by rw [Pl.powM_eq]; decide +kernel)] at this
  have H4 : Hid (∀ w, Calls Try.prog 15 #[.slice (some ⟨w.heap.size, 0, none⟩) 3 3] (w.alloc (.cells #[.string ⟨#[97, 104, 101, 97, 100]⟩, .string ⟨#[1, 1]⟩, .string ⟨#[98, 101, 104, 105, 110, 100]⟩] 9)) fun e w' => e = .returned (.string (Pl.sum (Pl.cat [⟨#[97, 104, 101, 97, 100]⟩, ⟨#[1, 1]⟩, ⟨#[98, 101, 104, 105, 110, 100]⟩]))) ∧ Below w.heap.size w w') := fun w => new_sum [⟨#[97, 104, 101, 97, 100]⟩, ⟨#[1, 1]⟩, ⟨#[98, 101, 104, 105, 110, 100]⟩] _ w (by simp) (lit3 (by decide) (by decide) (by decide)) rfl
  have H5 : Hid (∀ w, Calls Try.prog 15 #[.slice (some ⟨w.heap.size, 0, none⟩) 3 3] (w.alloc (.cells #[.string ⟨#[97, 104, 101, 97, 100]⟩, .string ⟨#[250, 35]⟩, .string ⟨#[98, 101, 104, 105, 110, 100]⟩] 9)) fun e w' => e = .returned (.string (Pl.sum (Pl.cat [⟨#[97, 104, 101, 97, 100]⟩, ⟨#[1, 1]⟩, ⟨#[98, 101, 104, 105, 110, 100]⟩]))) ∧ Below w.heap.size w w') := fun w => new_sum [⟨#[97, 104, 101, 97, 100]⟩, ⟨#[250, 35]⟩, ⟨#[98, 101, 104, 105, 110, 100]⟩] _ w (by simp) (lit3 (by decide) (by decide) (by decide)) (by decide +kernel)
  generalize Pl.sum (Pl.cat [⟨#[97, 104, 101, 97, 100]⟩, ⟨#[1, 1]⟩, ⟨#[98, 101, 104, 105, 110, 100]⟩]) = X at *
  clear hp
  go_enter Try.func10, Try.ntmps10
  go_wp2_with fail
  refine (HP.out _).mono ?_
  rintro e w1 ⟨rfl, rfl⟩
  go_wp2_with fail
  refine (H1.out _).mono ?_
  rintro e w2 ⟨rfl, k2⟩
  go_wp2_with fail
  refine (H2.out _).mono ?_
  rintro e w3 ⟨rfl, b3⟩
  have k3 := k2.trans (b3.mono k2.size)
  clear b3 k2
  go_wp2_with fail
  refine (H3.out _).mono ?_
  rintro e w4 ⟨rfl, b4⟩
  have k4 := k3.trans (b4.mono k3.size)
  clear b4 k3
  go_wp2_with fail
  refine (H4.out _).mono ?_
  rintro e w5 ⟨rfl, b5⟩
  have k5 := k4.trans (b5.mono k4.size)
  clear b5 k4
  go_wp2_with fail
  refine (H5.out _).mono ?_
  rintro e w6 ⟨rfl, b6⟩
  have k6 := k5.trans (b6.mono k5.size)
  clear b6 k5
  go_wp2_with fail
  go_ret
  exact ⟨rfl, k6⟩

end Go.Proofs.Ytkhnjipjbhcgdaa
