/-
  THE WALK of treeheadkeep.Known: its second part.
-/
import Derived.Test.YtkhnjipjbhcgdaaKnown0
namespace Go.Proofs.Ytkhnjipjbhcgdaa
open Go.RowKit

set_option maxRecDepth 100000 in
set_option maxHeartbeats 4000000 in
theorem known_1 (c : Int) (w : World) (h : Fits c) (hp : pickOf c 3 = 1) :
    Calls Try.prog 10 #[.int .i64 c] w fun e w' => e = .returned (.bool true) ∧ Below w.heap.size w w' := by
  have HP : Hid _ := fun w => pick_any c 3 w h (by omega) (by omega)
  rw [hp] at HP
  have HA : Hid (∀ w, Calls Try.prog 18 #[.slice (some ⟨w.heap.size, 0, none⟩) 1 1] (w.alloc (.cells #[.string ⟨#[97]⟩] 9)) fun e w' => e = .returned (.tuple #[.string (Pl.root [kA]), .int .i64 0]) ∧ Below w.heap.size w w') := fun w => new_root [kA] _ w (by simp) (by decide) rfl
  have HB : Hid (∀ w, Calls Try.prog 18 #[.slice (some ⟨w.heap.size, 0, none⟩) 1 1] (w.alloc (.cells #[.string ⟨#[98]⟩] 9)) fun e w' => e = .returned (.tuple #[.string (Pl.root [kB]), .int .i64 0]) ∧ Below w.heap.size w w') := fun w => new_root [kB] _ w (by simp) (by decide) rfl
  have HC : Hid (∀ w, Calls Try.prog 18 #[.slice (some ⟨w.heap.size, 0, none⟩) 1 1] (w.alloc (.cells #[.string ⟨#[99]⟩] 9)) fun e w' => e = .returned (.tuple #[.string (Pl.root [kC]), .int .i64 0]) ∧ Below w.heap.size w w') := fun w => new_root [kC] _ w (by simp) (by decide) rfl
  have HD : Hid (∀ w, Calls Try.prog 18 #[.slice (some ⟨w.heap.size, 0, none⟩) 2 2] (w.alloc (.cells #[.string ⟨#[97]⟩, .string ⟨#[98]⟩] 9)) fun e w' => e = .returned (.tuple #[.string (Pl.root [kA, kB]), .int .i64 0]) ∧ Below w.heap.size w w') := fun w => new_root [kA, kB] _ w (by simp) (by decide) rfl
  have hlit : ∀ s ∈ [kA, kB, kC], s.size ≤ maxLen := lit3 (by decide) (by decide) (by decide)
  have HI1 : Hid (∀ g w, Row w (some ⟨g, 0, none⟩) [kA, kB, kC] → Calls Try.prog 43 #[.slice (some ⟨g, 0, none⟩) 3 3, .int .i64 1] w fun e w' => ∃ v, e = .returned (.tuple #[v, .int .i64 0]) ∧ Own w' w.heap.size v [Pl.root [kA], Pl.root [kC]] ∧ Below w.heap.size w w') := fun g w hr => by
    have := tincl_yes (some ⟨g, 0, none⟩) 3 [kA, kB, kC] 1 w (by decide) (by omega) hr (by decide)
    rwa [show Pl.path [kA, kB, kC] (1 : Int).toNat = [Pl.root [kA], Pl.root [kC]] by decide +kernel] at this
  have HI2 : Hid (∀ g w, Row w (some ⟨g, 0, none⟩) [kA, kB, kC] → Calls Try.prog 43 #[.slice (some ⟨g, 0, none⟩) 3 3, .int .i64 2] w fun e w' => ∃ v, e = .returned (.tuple #[v, .int .i64 0]) ∧ Own w' w.heap.size v [Pl.root [kA, kB]] ∧ Below w.heap.size w w') := fun g w hr => by
    have := tincl_yes (some ⟨g, 0, none⟩) 3 [kA, kB, kC] 2 w (by decide) (by omega) hr (by decide)
    rwa [show Pl.path [kA, kB, kC] (2 : Int).toNat = [Pl.root [kA, kB]] by decide +kernel] at this
  have HX2 : Hid (∀ g w, Row w (some ⟨g, 0, none⟩) [kA, kB, kC] → Calls Try.prog 44 #[.slice (some ⟨g, 0, none⟩) 3 3, .int .i64 2] w fun e w' => ∃ v, e = .returned (.tuple #[v, .int .i64 0]) ∧ Own w' w.heap.size v [Pl.root [kC]] ∧ Below w.heap.size w w') := fun g w hr => by
    have := text_yes (some ⟨g, 0, none⟩) 3 [kA, kB, kC] 2 w (by decide) (by omega) hr (by decide)
    rwa [show Pl.parts [kA, kB, kC] (2 : Int).toNat true = [Pl.root [kC]] by decide +kernel] at this
  have HX1 : Hid (∀ g w, Row w (some ⟨g, 0, none⟩) [kA, kB, kC] → Calls Try.prog 44 #[.slice (some ⟨g, 0, none⟩) 3 3, .int .i64 1] w fun e w' => ∃ v, e = .returned (.tuple #[v, .int .i64 0]) ∧ Own w' w.heap.size v [Pl.root [kB], Pl.root [kC]] ∧ Below w.heap.size w w') := fun g w hr => by
    have := text_yes (some ⟨g, 0, none⟩) 3 [kA, kB, kC] 1 w (by decide) (by omega) hr (by decide)
    rwa [show Pl.parts [kA, kB, kC] (1 : Int).toNat true = [Pl.root [kB], Pl.root [kC]] by decide +kernel] at this
  have HX3 : Hid (∀ g w, Row w (some ⟨g, 0, none⟩) [kA, kB, kC] → Calls Try.prog 44 #[.slice (some ⟨g, 0, none⟩) 3 3, .int .i64 3] w fun e w' => ∃ v, e = .returned (.tuple #[v, .int .i64 0]) ∧ Own w' w.heap.size v [] ∧ Below w.heap.size w w') := fun g w hr => by
    have := text_yes (some ⟨g, 0, none⟩) 3 [kA, kB, kC] 3 w (by decide) (by omega) hr (by decide)
    rwa [show Pl.parts [kA, kB, kC] (3 : Int).toNat true = [] by decide +kernel] at this
  have HL : Hid (∀ w : World, Row (w.alloc (.cells #[.string ⟨#[97]⟩, .string ⟨#[98]⟩, .string ⟨#[99]⟩] 9)) (some ⟨w.heap.size, 0, none⟩) [kA, kB, kC]) := fun w => Row.lit w [kA, kB, kC] (by decide) hlit
  have z1 := Pl.root_size [kA]
  have z2 := Pl.root_size [kB]
  have z3 := Pl.root_size [kC]
  have z4 := Pl.root_size [kA, kB]
  have HZ : Hid ((Pl.root [kA]).size = 4 ∧ (Pl.root [kB]).size = 4 ∧ (Pl.root [kC]).size = 4 ∧ (Pl.root [kA, kB]).size = 4) := ⟨z1, z2, z3, z4⟩
  clear z1 z2 z3 z4 hlit hp
  generalize Pl.root [kA] = R1 at *
  generalize Pl.root [kB] = R2 at *
  generalize Pl.root [kC] = R3 at *
  generalize Pl.root [kA, kB] = R4 at *
  go_enter Try.func10, Try.ntmps10
  go_wp2_with fail
  refine (HP.out _).mono ?_
  rintro e w1 ⟨rfl, rfl⟩
  go_wp2_with fail
  have hr0 := HL.out w1
  have k0 : Below w1.heap.size w1 (w1.alloc (.cells #[.string ⟨#[97]⟩, .string ⟨#[98]⟩, .string ⟨#[99]⟩] 9)) := (Below.refl _ _).alloc (Nat.le_refl _) _
  have HA0 : Hid (∀ W0 : World, W0.heap.size = w1.heap.size + 1 → Calls Try.prog 18 #[.slice (some ⟨w1.heap.size + 1, 0, none⟩) 1 1] (W0.alloc (.cells #[.string ⟨#[97]⟩] 9)) fun e w' => e = .returned (.tuple #[.string R1, .int .i64 0]) ∧ Below W0.heap.size W0 w') := fun W0 h => by
    have := HA.out W0
    rwa [h] at this ⊢
  have HS0 : Hid ((w1.alloc (.cells #[.string ⟨#[97]⟩, .string ⟨#[98]⟩, .string ⟨#[99]⟩] 9)).heap.size = w1.heap.size + 1) := by show _ = _; simp
  generalize w1.alloc (.cells #[.string ⟨#[97]⟩, .string ⟨#[98]⟩, .string ⟨#[99]⟩] 9) = W0 at *
  refine (HA0.out _ HS0.out).mono ?_
  rintro e w2 ⟨rfl, b2⟩
  go_wp2_with fail
  refine (HB.out _).mono ?_
  rintro e w3 ⟨rfl, b3⟩
  go_wp2_with fail
  refine (HC.out _).mono ?_
  rintro e w4 ⟨rfl, b4⟩
  go_wp2_with fail
  refine (HD.out _).mono ?_
  rintro e w5 ⟨rfl, b5⟩
  have j3 := b2.trans (b3.mono b2.size)
  have j4 := j3.trans (b4.mono j3.size)
  have j5 := j4.trans (b5.mono j4.size)
  have HR5 : Hid _ := hr0.grow j5 (Nat.le_refl _)
  have k5 := k0.trans (j5.mono k0.size)
  clear b2 b3 b4 b5 j3 j4 j5 hr0 k0
  go_wp2_with fail
  refine (HI1.out _ _ HR5.out).mono ?_
  rintro e w6 ⟨v6, rfl, ho6, b6⟩
  obtain ⟨g6, m6, rfl, hm6, hx6, hr6⟩ := ho6.rowOf (by simp) (fun s hs => by have := HZ.out; simp at hs; rcases hs with rfl | rfl; exact this.1; exact this.2.2.1) (by simp)
  have HR6 : Hid _ := hr6
  clear ho6 hr6
  go_wp2_with fail
  refine (HI2.out _ _ (HR5.out.grow b6 (Nat.le_refl _))).mono ?_
  rintro e w7 ⟨v7, rfl, ho7, b7⟩
  obtain ⟨g7, m7, rfl, hm7, hx7, hr7⟩ := ho7.rowOf (by simp) (fun s hs => by have := HZ.out; simp at hs; rw [hs]; exact this.2.2.2) (by simp)
  have HR7 : Hid _ := hr7
  have j7 := b6.trans (b7.mono b6.size)
  clear ho7 hr7
  go_wp2_with fail
  refine (HX2.out _ _ (HR5.out.grow j7 (Nat.le_refl _))).mono ?_
  rintro e w8 ⟨v8, rfl, ho8, b8⟩
  obtain ⟨g8, m8, rfl, hm8, hx8, hr8⟩ := ho8.rowOf (by simp) (fun s hs => by have := HZ.out; simp at hs; rw [hs]; exact this.2.2.1) (by simp)
  have HR8 : Hid _ := hr8
  have j8 := j7.trans (b8.mono j7.size)
  clear ho8 hr8
  go_wp2_with fail
  refine (HX1.out _ _ (HR5.out.grow j8 (Nat.le_refl _))).mono ?_
  rintro e w9 ⟨v9, rfl, ho9, b9⟩
  obtain ⟨g9, m9, rfl, hm9, hx9, hr9⟩ := ho9.rowOf (by simp) (fun s hs => by have := HZ.out; simp at hs; rcases hs with rfl | rfl; exact this.2.1; exact this.2.2.1) (by simp)
  have HR9 : Hid _ := hr9
  have j9 := j8.trans (b9.mono j8.size)
  clear ho9 hr9
  go_wp2_with fail
  refine (HX3.out _ _ (HR5.out.grow j9 (Nat.le_refl _))).mono ?_
  rintro e w10 ⟨v10, rfl, ho10, b10⟩
  obtain ⟨p10, m10, rfl⟩ := own_len ho10
  have j10 := j9.trans (b10.mono j9.size)
  have c9 := HR9.out.grow b10 (Nat.le_refl _)
  have i8 := b9.trans (b10.mono b9.size)
  have c8 := HR8.out.grow i8 (Nat.le_refl _)
  have i7 := b8.trans (i8.mono b8.size)
  have c7 := HR7.out.grow i7 (Nat.le_refl _)
  have i6 := b7.trans (i7.mono b7.size)
  have c6 := HR6.out.grow i6 (Nat.le_refl _)
  have x0 := c6.cellAt 0 (by simp)
  have x1 := c6.cellAt 1 (by simp)
  have x2 := c7.cellAt 0 (by simp)
  have x3 := c8.cellAt 0 (by simp)
  have x4 := c9.cellAt 0 (by simp)
  have x5 := c9.cellAt 1 (by simp)
  have k10 := k5.trans (j10.mono k5.size)
  simp only [Nat.zero_add, List.getElem_cons_zero, List.getElem_cons_succ] at x0 x1 x2 x3 x4 x5
  clear ho10 b6 b7 b8 b9 b10 j7 j8 j9 j10 i6 i7 i8 c6 c7 c8 c9 k5 HR5 HR6 HR7 HR8 HR9
  go_wp2_with fail
  go_ret
  exact ⟨rfl, k10⟩

end Go.Proofs.Ytkhnjipjbhcgdaa
