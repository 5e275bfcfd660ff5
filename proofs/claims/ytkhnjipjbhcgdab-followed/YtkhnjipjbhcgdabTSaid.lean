import Derived.Test.YtkhnjipjbhcgdabTTwo
import Derived.BigQuiet
import Derived.Deep.RegionHeld3
/-
  THE WALKS of seals.whatIsSigned, MayBeHead, Sign, (Signed).Text.
-/
namespace Go.Proofs.Ytkhnjipjbhcgdab
open Go.RowKit Hp

theorem said_sizes (r key size : Nat) (root : ByteArray) (hz : root.size = 4) : ∀ s ∈ [⟨#[83]⟩, Pl.two r, Pl.two key, Pl.two size, root], s.size ≤ maxLen := by
  intro s hs
  simp only [List.mem_cons, List.not_mem_nil, or_false] at hs
  rcases hs with rfl | rfl | rfl | rfl | rfl
  · decide
  · rw [Pl.two_size]; decide
  · rw [Pl.two_size]; decide
  · rw [Pl.two_size]; decide
  · rw [hz]; decide
theorem said_cat (r key size : Nat) (root : ByteArray) : Pl.cat [⟨#[83]⟩, Pl.two r, Pl.two key, Pl.two size, root] = (Pl.saidText key r size root).data.toList := by
  unfold Pl.saidText
  simp [Pl.cat, ByteArray.data_append]

set_option maxRecDepth 100000 in
set_option maxHeartbeats 4000000 in
theorem tsaid_any (key r size : Nat) (root : ByteArray) (w : World) (hk : key < 65536) (hr : r < 65536) (hs : size < 65536) (hz : root.size = 4) :
    Calls Try.prog 54 #[.int .i64 r, .int .i64 key, .agg #[.int .i64 size, .string root]] w fun e w' => e = .returned (.int .i64 (Pl.said key r size root : Nat)) ∧ Below w.heap.size w w' := by
  have HE : Hid (Pl.said key r size root = Pl.num (Pl.saidText key r size root).data.toList % 1019) := rfl
  have hnum := Pl.num_lt (Pl.saidText key r size root).data.toList
  have HN : Hid (∀ w : World, Calls Try.prog 52 #[.slice (some ⟨w.heap.size, 0, none⟩) 5 5] (w.alloc (.cells #[.string ⟨#[83]⟩, .string (Pl.two r), .string (Pl.two key), .string (Pl.two size), .string root] 9)) fun e w' => e = .returned (.int .i64 (Pl.num (Pl.saidText key r size root).data.toList : Nat)) ∧ w' = w.alloc (.cells #[.string ⟨#[83]⟩, .string (Pl.two r), .string (Pl.two key), .string (Pl.two size), .string root] 9)) := fun w => by
    have h := number_any (some ⟨w.heap.size, 0, none⟩) 5 [⟨#[83]⟩, Pl.two r, Pl.two key, Pl.two size, root] _ (row_lit w _ (by simp [maxLen]) (said_sizes r key size root hz))
    rw [said_cat] at h
    exact h
  generalize Pl.num (Pl.saidText key r size root).data.toList = N at *
  go_enter Try.func54, Try.ntmps54
  go_wp2_with fail
  have hB0 : Below w.heap.size w (w.alloc (.cells #[.int .i64 size, .string root] 27)).drew := ((Below.refl _ _).alloc (Nat.le_refl _) _).drew
  have q00 : (w.alloc (.cells #[.int .i64 size, .string root] 27)).drew.cell? ⟨w.heap.size, 0, none⟩ = some (.int .i64 size) := World.cell?_alloc_mark _ _ _ _ _
  have q01 : (w.alloc (.cells #[.int .i64 size, .string root] 27)).drew.cell? ⟨w.heap.size, 1, none⟩ = some (.string root) := World.cell?_alloc_mark _ _ _ _ _
  have hz0 : w.heap.size < (w.alloc (.cells #[.int .i64 size, .string root] 27)).drew.heap.size := by simp
  go_region_held3 (fun w' => w'.cell? ⟨w.heap.size, 0, none⟩ = some (.int .i64 size) ∧ w'.cell? ⟨w.heap.size, 1, none⟩ = some (.string root)) (go_keep) (first
    | (go_at_call_of 55 (Value.int .i64 (r : Int)); refine (ttwo_any r _ hr).mono ?_; rintro e w2 ⟨rfl, hb2⟩; obtain ⟨q20, q21, hz2⟩ := keep2 hb2 hz0 q00 q01)
    | (go_at_call_of 55 (Value.int .i64 (key : Int)); refine (ttwo_any key _ hk).mono ?_; rintro e w3 ⟨rfl, hb3⟩; obtain ⟨q30, q31, hz3⟩ := keep2 hb3 hz2 q20 q21)
    | (go_at_call_of 55 (Value.int .i64 (size : Int)); refine (ttwo_any size _ hs).mono ?_; rintro e w4 ⟨rfl, hb4⟩; obtain ⟨q40, q41, hz4⟩ := keep2 hb4 hz3 q30 q31)
    | (go_at_call 52; refine (HN.out _).mono ?_; rintro e w5 ⟨rfl, rfl⟩))
  all_goals
    go_wp2_with fail
    go_ret
    have k3 := hb2.trans (hb3.mono hb2.size)
    have k4 := k3.trans (hb4.mono k3.size)
    have k5 := hB0.trans (k4.mono (by simp))
    exact ⟨ret_int (by rw [HE.out, Int.tmod_eq_emod_of_nonneg (by omega)]; omega), k5.alloc (by have := k5.size; omega) _⟩

set_option maxRecDepth 100000 in
set_option maxHeartbeats 1000000 in
theorem tmayhead_any (size : Int) (root : ByteArray) (w : World) (hz : root.size ≤ maxLen) :
    Calls Try.prog 31 #[.agg #[.int .i64 size, .string root]] w fun e w' => e = .returned (.bool (decide (0 ≤ size) && decide (size ≤ 40) && Pl.isSumB root)) ∧ Below w.heap.size w w' := by
  have HI : Hid _ := fun w => tis_any root w hz
  have hB0 : Below w.heap.size w (w.alloc (.cells #[.int .i64 size, .string root] 27)) := (Below.refl _ _).alloc (Nat.le_refl _) _
  generalize Pl.isSumB root = x at *
  by_cases h1 : 0 ≤ size
  · by_cases h2 : size ≤ 40
    · rw [decide_eq_true h1, decide_eq_true h2, Bool.true_and, Bool.true_and]
      go_enter Try.func31, Try.ntmps31
      go_wp2_with fail
      refine (HI.out _).mono ?_
      rintro e w1 ⟨rfl, rfl⟩
      go_wp2_with fail
      go_ret
      exact ⟨rfl, hB0⟩
    · rw [decide_eq_true h1, decide_eq_false h2, Bool.true_and, Bool.false_and]
      go_enter Try.func31, Try.ntmps31
      go_wp2_with fail
      go_ret
      exact ⟨rfl, hB0⟩
  · rw [decide_eq_false h1, Bool.false_and, Bool.false_and]
    go_enter Try.func31, Try.ntmps31
    go_wp2_with fail
    go_ret
    exact ⟨rfl, hB0⟩

set_option maxRecDepth 100000 in
set_option maxHeartbeats 4000000 in
theorem ttext_any (size c s : Nat) (root : ByteArray) (w : World) (hs : size < 65536) (hc : c < 65536) (hd : s < 65536) (hz : root.size = 4) :
    Calls Try.prog 33 #[.agg #[.int .i64 size, .string root, .int .i64 c, .int .i64 s]] w fun e w' => e = .returned (.string (Pl.headText size root c s)) ∧ Below w.heap.size w w' := by
  have z1 := Pl.two_size size
  have z2 := Pl.two_size c
  have z3 := Pl.two_size s
  have HX : Hid (Pl.headText size root c s = ⟨#[72]⟩ ++ Pl.two size ++ root ++ Pl.two c ++ Pl.two s) := rfl
  go_enter Try.func33, Try.ntmps33
  go_wp2_with fail
  have hB0 : Below w.heap.size w (w.alloc (.cells #[.int .i64 size, .string root, .int .i64 c, .int .i64 s] 65)).drew := ((Below.refl _ _).alloc (Nat.le_refl _) _).drew
  have q00 : (w.alloc (.cells #[.int .i64 size, .string root, .int .i64 c, .int .i64 s] 65)).drew.cell? ⟨w.heap.size, 0, none⟩ = some (.int .i64 size) := World.cell?_alloc_mark _ _ _ _ _
  have q01 : (w.alloc (.cells #[.int .i64 size, .string root, .int .i64 c, .int .i64 s] 65)).drew.cell? ⟨w.heap.size, 1, none⟩ = some (.string root) := World.cell?_alloc_mark _ _ _ _ _
  have q02 : (w.alloc (.cells #[.int .i64 size, .string root, .int .i64 c, .int .i64 s] 65)).drew.cell? ⟨w.heap.size, 2, none⟩ = some (.int .i64 c) := World.cell?_alloc_mark _ _ _ _ _
  have q03 : (w.alloc (.cells #[.int .i64 size, .string root, .int .i64 c, .int .i64 s] 65)).drew.cell? ⟨w.heap.size, 3, none⟩ = some (.int .i64 s) := World.cell?_alloc_mark _ _ _ _ _
  have hz0 : w.heap.size < (w.alloc (.cells #[.int .i64 size, .string root, .int .i64 c, .int .i64 s] 65)).drew.heap.size := by simp
  go_region_held3 (fun w' => w'.cell? ⟨w.heap.size, 0, none⟩ = some (.int .i64 size) ∧ w'.cell? ⟨w.heap.size, 1, none⟩ = some (.string root) ∧ w'.cell? ⟨w.heap.size, 2, none⟩ = some (.int .i64 c) ∧ w'.cell? ⟨w.heap.size, 3, none⟩ = some (.int .i64 s)) (go_keep) (first
    | (go_at_call_of 55 (Value.int .i64 (size : Int)); refine (ttwo_any size _ hs).mono ?_; rintro e w2 ⟨rfl, hb2⟩; obtain ⟨q20, q21, q22, q23, hz2⟩ := keep4 hb2 hz0 q00 q01 q02 q03)
    | (go_at_call_of 55 (Value.int .i64 (c : Int)); refine (ttwo_any c _ hc).mono ?_; rintro e w3 ⟨rfl, hb3⟩; obtain ⟨q30, q31, q32, q33, hz3⟩ := keep4 hb3 hz2 q20 q21 q22 q23)
    | (go_at_call_of 55 (Value.int .i64 (s : Int)); refine (ttwo_any s _ hd).mono ?_; rintro e w4 ⟨rfl, hb4⟩; obtain ⟨q40, q41, q42, q43, hz4⟩ := keep4 hb4 hz3 q30 q31 q32 q33))
  all_goals
    go_wp2_with fail
    go_ret
    rw [HX.out]
    have k3 := hb2.trans (hb3.mono hb2.size)
    have k4 := k3.trans (hb4.mono k3.size)
    exact ⟨rfl, hB0.trans (k4.mono (by simp))⟩

end Go.Proofs.Ytkhnjipjbhcgdab
