/-
  THE WALKS of tree.FoldLeaf, treehead.mayBeAnswer, treehead.Included.
-/
import Derived.Test.YtnekilnfhkoogaaTClimb
namespace Go.Proofs.Ytnekilnfhkoogaa
open Go.RowKit

/-- sums.Of of a leaf's parts, laid anew. -/
theorem of_leaf (s : ByteArray) (w : World) (hs : s.size ≤ maxLen) :
    Calls Try.prog 44 #[.slice (some ⟨w.heap.size, 0, none⟩) 2 2] (w.alloc (.cells #[.string ⟨#[76]⟩, .string s] 9)) fun e w' => e = .returned (.string (Pl.sumB (Pl.textL s))) ∧ Below w.heap.size w w' := by
  have h := of_of (some ⟨w.heap.size, 0, none⟩) 2 [⟨#[76]⟩, s] (Pl.textL s).data.toList (w.alloc (.cells #[.string ⟨#[76]⟩, .string s] 9)) (Row.lit w [⟨#[76]⟩, s] (by simp [maxLen]) (lit2 (by decide) hs)) (by rw [cat2]; unfold Pl.textL; simp [ByteArray.data_append])
  refine h.mono fun e w' ⟨he, hw⟩ => ⟨he, ?_⟩
  exact ((Below.refl _ w).alloc (Nat.le_refl _) _).trans (hw.mono (by simp))

/-- What FoldLeaf gives. -/
def foldL (leaf : ByteArray) (i n : Nat) (P : List ByteArray) : Value :=
  match Pl.leafT leaf i n P with
  | none => .tuple #[.string ⟨#[]⟩, .bool false]
  | some (_, r) => .tuple #[.string r, .bool true]

set_option maxRecDepth 100000 in
set_option maxHeartbeats 4000000 in
theorem tfoldleaf_any (leaf : ByteArray) (i n : Nat) (P : List ByteArray) (p : Option Addr) (cap : Nat) (w : World) (hl : leaf.size ≤ maxLen) (h1 : 1 ≤ n) (h40 : n ≤ 40) (hi : i < n) (hPr : Row w p P) :
    Calls Try.prog 55 #[.string leaf, .int .i64 i, .int .i64 n, .slice p P.length cap] w fun e w' => e = .returned (foldL leaf i n P) ∧ Below w.heap.size w w' := by
  have hT := Pl.leafT_climb leaf n i P h1 hi
  have HO : Hid _ := fun w => of_leaf leaf w hl
  have HS : Hid _ := fun w => tlsides_any n i w h1 h40 hi
  have hSl := Nat.le_trans (Pl.lsides_length n i) h40
  have hr4 := sumB_size (Pl.textL leaf)
  have HPr : Hid _ := hPr
  clear hPr
  generalize Pl.lsides i n = S at *
  generalize Pl.sumB (Pl.textL leaf) = r at *
  cases hc : Pl.climbB S P with
  | false =>
    have HV : Hid (foldL leaf i n P = .tuple #[.string ⟨#[]⟩, .bool false]) := by
      show _ = _
      rw [hc, if_neg (by simp)] at hT
      unfold foldL
      cases hx : Pl.leafT leaf i n P with
      | none => rfl
      | some x => rw [hx] at hT; simp at hT
    clear hT
    go_enter Try.func55, Try.ntmps55
    go_wp2_with fail
    refine (HO.out _).mono ?_
    rintro e w1 ⟨rfl, hb1⟩
    go_wp2_with fail
    refine (HS.out _).mono ?_
    rintro e w2 ⟨v2, rfl, ho2, hb2⟩
    obtain ⟨q, sc, rfl, hsc, hscm, hsr, hsB⟩ := ho2.open
    have hsz1 := hb1.size
    have hl2 := hb2.size
    have hF2 : Box w2 (w1.heap.size + 1) 89 [.slice (some ⟨w1.heap.size, 0, none⟩) 1 1] := by
      have := (Box.new (w1.alloc (.cells #[.string r] 9)) 89 [.slice (some ⟨w1.heap.size, 0, none⟩) 1 1]).grow hb2 (by simp)
      rwa [show (w1.alloc (.cells #[.string r] 9)).heap.size = w1.heap.size + 1 by simp] at this
    have hR2 : Box w2 w1.heap.size 9 [.string r] := ((Box.new w1 9 [.string r]).alloc _).grow hb2 (by simp; omega)
    have hk1 : Below w.heap.size w ((w1.alloc (.cells #[.string r] 9)).alloc (.cells #[.slice (some ⟨w1.heap.size, 0, none⟩) 1 1] 89)) := (hb1.alloc hsz1 _).alloc (by simp; omega) _
    have hk2 : Below w.heap.size w w2 := hk1.trans (hb2.mono (by simp; omega))
    have hP2 : Row w2 p P := HPr.out.grow hk2 (Nat.le_refl _)
    have hPR := HPr.out.ne hsz1
    have hSR : ∀ g, q = some ⟨g, 0, none⟩ → g ≠ w1.heap.size := fun g hg => by have := hsB g hg; simp at this; omega
    have HC : Hid _ := tclimb_any (w1.heap.size + 1) w1.heap.size [r] S P q p sc cap w2 (Or.inl rfl) (by omega) hF2 hR2 (fun x hx => by simp at hx; rw [hx]; exact hr4) hSl hsr hSR hP2 hPR hsc hscm
    clear hsr hSR hP2 hPR ho2 hsB hb2 hb1 hk1 hR2
    rw [hc] at HC
    go_wp2_with fail
    refine Calls.mono HC.out ?_
    rintro e w3 ⟨rfl, hbt, _⟩
    have hk3 := hk2.trans (hbt.below hsz1 hk2.size)
    clear hF2 HC hbt
    go_wp2_with fail
    rw [HV.out]
    go_ret2
    exact ⟨rfl, hk3⟩
  | true =>
    have hcl : (Pl.climb [r] S P).length = 1 := Pl.climb_length _ _ _ (by simp)
    obtain ⟨c, hcc⟩ : ∃ c, Pl.climb [r] S P = [c] := by
      match Pl.climb [r] S P, hcl with
      | [c], _ => exact ⟨c, rfl⟩
    have HV : Hid (foldL leaf i n P = .tuple #[.string c, .bool true]) := by
      show _ = _
      rw [hc, if_pos rfl, hcc] at hT
      unfold foldL
      cases hx : Pl.leafT leaf i n P with
      | none => rw [hx] at hT; simp at hT
      | some x =>
        rw [hx] at hT
        obtain ⟨t, y⟩ := x
        have : y = c := by simpa using hT
        rw [this]
    clear hT hcl
    go_enter Try.func55, Try.ntmps55
    go_wp2_with fail
    refine (HO.out _).mono ?_
    rintro e w1 ⟨rfl, hb1⟩
    go_wp2_with fail
    refine (HS.out _).mono ?_
    rintro e w2 ⟨v2, rfl, ho2, hb2⟩
    obtain ⟨q, sc, rfl, hsc, hscm, hsr, hsB⟩ := ho2.open
    have hsz1 := hb1.size
    have hl2 := hb2.size
    have hF2 : Box w2 (w1.heap.size + 1) 89 [.slice (some ⟨w1.heap.size, 0, none⟩) 1 1] := by
      have := (Box.new (w1.alloc (.cells #[.string r] 9)) 89 [.slice (some ⟨w1.heap.size, 0, none⟩) 1 1]).grow hb2 (by simp)
      rwa [show (w1.alloc (.cells #[.string r] 9)).heap.size = w1.heap.size + 1 by simp] at this
    have hR2 : Box w2 w1.heap.size 9 [.string r] := ((Box.new w1 9 [.string r]).alloc _).grow hb2 (by simp; omega)
    have hk1 : Below w.heap.size w ((w1.alloc (.cells #[.string r] 9)).alloc (.cells #[.slice (some ⟨w1.heap.size, 0, none⟩) 1 1] 89)) := (hb1.alloc hsz1 _).alloc (by simp; omega) _
    have hk2 : Below w.heap.size w w2 := hk1.trans (hb2.mono (by simp; omega))
    have hP2 : Row w2 p P := HPr.out.grow hk2 (Nat.le_refl _)
    have hPR := HPr.out.ne hsz1
    have hSR : ∀ g, q = some ⟨g, 0, none⟩ → g ≠ w1.heap.size := fun g hg => by have := hsB g hg; simp at this; omega
    have HC : Hid _ := tclimb_any (w1.heap.size + 1) w1.heap.size [r] S P q p sc cap w2 (Or.inl rfl) (by omega) hF2 hR2 (fun x hx => by simp at hx; rw [hx]; exact hr4) hSl hsr hSR hP2 hPR hsc hscm
    clear hsr hSR hP2 hPR ho2 hsB hb2 hb1 hk1 hR2
    rw [hc] at HC
    go_wp2_with fail
    refine Calls.mono HC.out ?_
    rintro e w3 ⟨rfl, hbt, hR3⟩
    have hk3 := hk2.trans (hbt.below hsz1 hk2.size)
    have hR3 := hR3 (by first | rfl | exact hc | trivial)
    rw [hcc] at hR3
    have hF3 := hF2.but hbt (by omega)
    have c0 := hF3.cell 0
    have c1 := hR3.cell 0
    clear hF2 HC hbt hcc hR3 hF3
    go_wp2_with fail
    rw [HV.out]
    go_ret2
    exact ⟨rfl, hk3⟩

set_option maxRecDepth 100000 in
set_option maxHeartbeats 1000000 in
theorem tmayans_any (size index : Int) (leaf : ByteArray) (pv : Value) (w : World) (hl : leaf.size ≤ maxLen) (hpv : ∃ p n cap, pv = .slice p n cap) :
    Calls Try.prog 54 #[.agg #[.int .i64 size, .int .i64 index, .string leaf, pv]] w fun e w' => e = .returned (.bool (Pl.ansB size index leaf)) ∧ Below w.heap.size w w' := by
  obtain ⟨p, n, cap, rfl⟩ := hpv
  unfold maxLen at hl
  have hB0 : Below w.heap.size w (w.alloc (.cells #[.int .i64 size, .int .i64 index, .string leaf, .slice p n cap] 36)) := (Below.refl _ _).alloc (Nat.le_refl _) _
  have HD : Hid (Pl.ansB size index leaf = (decide (1 ≤ size) && decide (size ≤ 40) && decide (0 ≤ index) && decide (index < size) && decide (leaf.size ≤ 30))) := rfl
  by_cases h1 : 1 ≤ size
  · by_cases h2 : size ≤ 40
    · by_cases h3 : 0 ≤ index
      · by_cases h4 : index < size
        · by_cases h5 : leaf.size ≤ 30
          · have HX : Hid (Pl.ansB size index leaf = true) := by show _ = _; rw [HD.out]; simp [h1, h2, h3, h4, h5]
            have hb5 : decide ((leaf.size : Int) ≤ 30) = true := decide_eq_true (by omega)
            go_enter Try.func54, Try.ntmps54
            go_wp2
            go_ret
            exact ⟨ret_bool HX.out.symm, hB0⟩
          · have HX : Hid (Pl.ansB size index leaf = false) := by show _ = _; rw [HD.out]; simp [h5]
            have hb5 : decide ((leaf.size : Int) ≤ 30) = false := decide_eq_false (by omega)
            go_enter Try.func54, Try.ntmps54
            go_wp2
            go_ret
            exact ⟨ret_bool HX.out.symm, hB0⟩
        · have HX : Hid (Pl.ansB size index leaf = false) := by show _ = _; rw [HD.out]; simp [h4]
          go_enter Try.func54, Try.ntmps54
          go_wp2
          go_ret
          exact ⟨ret_bool HX.out.symm, hB0⟩
      · have HX : Hid (Pl.ansB size index leaf = false) := by show _ = _; rw [HD.out]; simp [h3]
        go_enter Try.func54, Try.ntmps54
        go_wp2
        go_ret
        exact ⟨ret_bool HX.out.symm, hB0⟩
    · have HX : Hid (Pl.ansB size index leaf = false) := by show _ = _; rw [HD.out]; simp [h2]
      go_enter Try.func54, Try.ntmps54
      go_wp2
      go_ret
      exact ⟨ret_bool HX.out.symm, hB0⟩
  · have HX : Hid (Pl.ansB size index leaf = false) := by show _ = _; rw [HD.out]; simp [h1]
    go_enter Try.func54, Try.ntmps54
    go_wp2
    go_ret
    exact ⟨ret_bool HX.out.symm, hB0⟩

end Go.Proofs.Ytnekilnfhkoogaa
