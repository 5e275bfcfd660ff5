/-
  THE WALK of treeheadlaw.Sums.
-/
import Derived.Test.YtkhnjipjbhcgdaaSum
import Derived.Test.YtkhnjipjbhcgdaaHand
namespace Go.Proofs.Ytkhnjipjbhcgdaa
open Go.RowKit

/-- The texts joined. -/
def catB (ss : List ByteArray) : ByteArray := ⟨(Pl.cat ss).toArray⟩
theorem catB_toList (ss : List ByteArray) : (catB ss).data.toList = Pl.cat ss := by simp [catB]
theorem catB_size (ss : List ByteArray) : (catB ss).size = (Pl.cat ss).length := by simp [catB, ByteArray.size]
theorem catB_take (ss : List ByteArray) (k : Nat) (h : k < ss.length) : catB (ss.take (k + 1)) = catB (ss.take k) ++ ss[k] := by
  apply ByteArray.ext
  simp [catB, Pl.cat_take ss k h, ByteArray.data_append]
theorem cat_take_le (ss : List ByteArray) (k : Nat) : (Pl.cat (ss.take k)).length ≤ (Pl.cat ss).length := by
  have h := congrArg List.length (Pl.cat_append (ss.take k) (ss.drop k))
  rw [List.take_append_drop, List.length_append] at h
  omega

theorem Row.grow {B : Nat} {w w' : World} {p : Option Addr} {ss : List ByteArray} (hr : Row w p ss) (h : Below B w w') (hB : w.heap.size ≤ B) : Row w' p ss := by
  refine ⟨hr.len, hr.size, ?_⟩
  rcases hr.cell with h0 | ⟨b, o, rfl, hb, hc⟩
  · exact Or.inl h0
  · exact Or.inr ⟨b, o, rfl, by have := h.size; omega, fun i hi => by rw [h.cell (p := ⟨b, o + i, none⟩) (show b < B by omega)]; exact hc i hi⟩
theorem Row.new (w : World) (ss : List ByteArray) (hl : ss.length ≤ maxLen) (hs : ∀ s ∈ ss, s.size ≤ maxLen) : Row (w.alloc (.cells (rowOf ss 8).toArray 9)) (some ⟨w.heap.size, 0, none⟩) ss := by
  refine ⟨hl, hs, Or.inr ⟨w.heap.size, 0, rfl, by simp, fun i hi => ?_⟩⟩
  rw [Nat.zero_add, World.cell?_alloc_mark, List.getElem?_toArray]
  exact rowOf_at ss i hi

theorem Row.ne {w : World} {p : Option Addr} {ss : List ByteArray} {B : Nat} (hr : Row w p ss) (hB : w.heap.size ≤ B) : ∀ b o, ss ≠ [] → p = some ⟨b, o, none⟩ → b ≠ B := by
  intro b o hs he
  rcases hr.cell with h0 | ⟨b', o', h1, hb', _⟩
  · exact absurd h0 hs
  · rw [he] at h1
    simp at h1
    omega

theorem rsum_of (s : ByteArray) (l : List UInt8) (w : World) (hs : s.size ≤ maxLen) (hl : s.data.toList = l) :
    Calls Try.prog 17 #[.string s] w fun e w' => e = .returned (.string (Pl.sum l)) ∧ ∃ n, w' = w.drewN n := by
  subst hl
  exact rsum_any s w hs

set_option maxRecDepth 100000 in
set_option maxHeartbeats 1000000 in
theorem sums_some (a : Addr) (cap : Nat) (ss : List ByteArray) (w : World) (hr : Row w (some a) ss) (hl : 16 * (ss.length + 8) ≤ 281474976710656) (hc : (Pl.cat ss).length ≤ 1048576) :
    Calls Try.prog 3 #[.slice (some a) ss.length cap] w fun e w' => e = .returned (.bool true) ∧ Below w.heap.size w w' := by
  go_enter Try.func3, Try.ntmps3
  go_wp2_with fail
  refine (handed_some a cap ss w hr hl).mono ?_
  rintro e w1 ⟨rfl, rfl⟩
  go_wp2_with fail
  refine (sum_any _ _ ss _ (Row.new w ss hr.len hr.size)).mono ?_
  rintro e w2 ⟨rfl, hb⟩
  have hr2 : Row w2 (some a) ss := (hr.grow ((Below.refl _ _).alloc (Nat.le_refl _) _) (Nat.le_refl _)).grow hb (Nat.le_refl _)
  have hg2 : w2.heap[w.heap.size]? = some (.cells (rowOf ss 8).toArray 9 (0, 0)) := by
    rw [hb.block _ (by simp)]
    exact Array.getElem?_push_size ..
  have hb2 : Below w.heap.size w w2 := ((Below.refl _ _).alloc (Nat.le_refl _) _).trans (hb.mono (by simp))
  clear hb
  go_wp2_with fail
  refine (still_some w.heap.size (some a) cap ss w2 hr2 (hr.ne (Nat.le_refl _)) hg2 hl).mono ?_
  rintro e w3 ⟨rfl, ho⟩
  have hr3 : Row w3 (some a) ss := hr2.only ho (hr.ne (Nat.le_refl _))
  have hb3 : Below w.heap.size w w3 := hb2.trans (ho.below (Nat.le_refl _))
  clear ho hb2 hg2 hr2 hr
  go_wp2_with fail
  go_loop [7, 8] (fun s i => ∃ k : Nat, k ≤ ss.length ∧ i = .int .i64 k ∧ s = .string (catB (ss.take k))) (fun _ i => ss.length - (intOf i).toNat)
  case atStart => exact ⟨0, by omega, rfl, rfl⟩
  case round =>
    obtain ⟨k, hk, rfl, rfl⟩ := hrel
    by_cases hlt : k < ss.length
    · rcases hr3.cell with h0 | ⟨b, o, h1, _, hcell⟩
      · rw [h0] at hlt; exact absurd hlt (by simp)
      · have hck := hcell k hlt
        simp only [Option.some.injEq] at h1
        subst h1
        have HC : Hid _ := catB_take ss k hlt
        have hz := cat_take_le ss (k + 1)
        rw [← catB_size, HC.out, ByteArray.size_append] at hz
        have hz2 : (catB (ss.take k)).size + ss[k].size ≤ 1048576 := by omega
        clear hz
        clear hcell hr3
        generalize ss[k] = s at *
        generalize catB (ss.take k) = S at *
        go_wp2
        all_goals
          go_round
          case rel => exact ⟨k + 1, by omega, by go_num, by rw [HC.out]⟩
          case measure => simp [intOf]; omega
    · have hk2 : ss.take k = ss := List.take_of_length_le (by omega)
      rw [hk2]
      have hz : (catB ss).size ≤ maxLen := by rw [catB_size]; unfold maxLen; omega
      go_wp2_with fail
      refine (rsum_of (catB ss) (Pl.cat ss) _ hz (catB_toList ss)).mono ?_
      rintro e w4 ⟨rfl, n, rfl⟩
      go_wp2
      go_ret
      exact ⟨rfl, below_drewN hb3 n⟩

theorem row_nil (w : World) : Row w none [] := ⟨by simp, by simp, Or.inl rfl⟩

set_option maxRecDepth 100000 in
set_option maxHeartbeats 1000000 in
theorem sums_nil (w : World) :
    Calls Try.prog 3 #[.slice none 0 0] w fun e w' => e = .returned (.bool true) ∧ Below w.heap.size w w' := by
  go_enter Try.func3, Try.ntmps3
  go_wp2_with fail
  refine (handed_nil w).mono ?_
  rintro e w1 ⟨rfl, rfl⟩
  go_wp2_with fail
  refine (sum_any _ _ [] _ (row_nil w1)).mono ?_
  rintro e w2 ⟨rfl, hb⟩
  go_wp2_with fail
  refine (still_nil _).mono ?_
  rintro e w3 ⟨rfl, rfl⟩
  go_wp2_with fail
  refine wp_loop_rounds 1 ?_
  rw [rounds_succ]
  go_wp2_with fail
  refine (rsum_of _ (Pl.cat []) _ (by simp [ByteArray.size]) rfl).mono ?_
  rintro e w4 ⟨rfl, n, rfl⟩
  go_wp2
  go_ret
  exact ⟨rfl, below_drewN hb n⟩

theorem sums_walk (v : Value) (ss : List ByteArray) (w : World) (hr : IsRow w v ss) (hq : ss.length + (Pl.cat ss).length ≤ 1048576) :
    Calls Try.prog 3 #[v] w fun e w' => e = .returned (.bool true) ∧ Below w.heap.size w w' := by
  rcases hr with ⟨rfl, rfl⟩ | ⟨a, cap, rfl, _, _, hr⟩
  · exact sums_nil w
  · exact sums_some a cap ss w hr (by omega) (by omega)

end Go.Proofs.Ytkhnjipjbhcgdaa
