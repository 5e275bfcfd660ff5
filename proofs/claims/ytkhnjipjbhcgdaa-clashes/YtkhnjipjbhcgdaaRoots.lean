/-
  THE WALKS of treeheadlaw.three, treeheadlaw.rooted, treeheadlaw.Roots.
-/
import Derived.Test.YtkhnjipjbhcgdaaLeaves
namespace Go.Proofs.Ytkhnjipjbhcgdaa
open Go.RowKit

def abc : List ByteArray := [⟨#[97]⟩, ⟨#[98]⟩, ⟨#[99]⟩]
theorem abc_ok : okB abc = true := by decide
theorem abc_sizes : ∀ s ∈ abc, s.size ≤ maxLen := lit3 (by decide) (by decide) (by decide)

set_option maxRecDepth 100000 in
set_option maxHeartbeats 400000 in
theorem three_any (w : World) : Calls Try.prog 20 #[] w fun e w' => e = .returned (.slice (some ⟨w.heap.size, 0, none⟩) abc.length 3) ∧ w' = w.alloc (.cells (abc.map Value.string).toArray 9) := by
  go_enter Try.func20, Try.ntmps20
  go_wp2
  go_ret
  exact ⟨rfl, rfl⟩

set_option maxRecDepth 100000 in
set_option maxHeartbeats 1000000 in
theorem rooted_some (a : Addr) (cap : Nat) (ss : List ByteArray) (w : World) (hr : Row w (some a) ss) (hc : ss.length ≤ cap) (hm : cap ≤ 9223372036854775807) (hl : 16 * (ss.length + 8) ≤ 281474976710656) :
    Calls Try.prog 19 #[.slice (some a) ss.length cap] w fun e w' => e = .returned (.bool true) ∧ Below w.heap.size w w' := by
  have HA : Hid (rootAns ss = .tuple #[.string (Pl.root ss), .int .i64 0] ∨ rootAns ss = .tuple #[.string ⟨#[]⟩, .int .i64 1]) := by
    show _ ∨ _
    cases hok : okB ss with
    | true => exact Or.inl (rootAns_yes hok)
    | false => exact Or.inr (rootAns_no hok)
  obtain ⟨r, x, HX⟩ : ∃ r x, Hid (rootAns ss = .tuple #[.string r, .int .i64 x]) := by
    rcases HA.out with h | h
    · exact ⟨_, _, h⟩
    · exact ⟨_, _, h⟩
  clear HA
  go_enter Try.func19, Try.ntmps19
  go_wp2_with fail
  refine (handed_some a cap ss w hr hl).mono ?_
  rintro e w1 ⟨rfl, rfl⟩
  go_wp2_with fail
  refine (troot_any _ _ ss _ (by omega) (by omega) (Row.new w ss hr.len hr.size)).mono ?_
  rintro e w2 ⟨rfl, hb⟩
  rw [HX.out]
  have hr2 : Row w2 (some a) ss := (hr.grow ((Below.refl _ _).alloc (Nat.le_refl _) _) (Nat.le_refl _)).grow hb (Nat.le_refl _)
  have hg2 : w2.heap[w.heap.size]? = some (.cells (rowOf ss 8).toArray 9 (0, 0)) := by
    rw [hb.block _ (by simp)]
    exact Array.getElem?_push_size ..
  have hb2 : Below w.heap.size w w2 := ((Below.refl _ _).alloc (Nat.le_refl _) _).trans (hb.mono (by simp))
  clear hb
  go_wp2_with fail
  refine (still_some w.heap.size (some a) cap ss w2 hr2 (hr.ne (Nat.le_refl _)) hg2 hl).mono ?_
  rintro e w3 ⟨rfl, ho⟩
  have hr3 : Row w3 (some a) ss := hr2.only ho (hr.ne (Nat.le_refl _))
  have hb3 : Below w.heap.size w w3 := hb2.trans (ho.below (Nat.le_refl _))
  clear ho hb2 hg2 hr2 hr
  go_wp2_with fail
  refine (rtroot_any _ _ ss _ hc hm hr3).mono ?_
  rintro e w4 ⟨rfl, hb4⟩
  rw [HX.out]
  go_wp2_with fail
  go_ret
  exact ⟨rfl, hb3.trans (hb4.mono hb3.size)⟩

set_option maxRecDepth 100000 in
set_option maxHeartbeats 1000000 in
theorem rooted_nil (w : World) :
    Calls Try.prog 19 #[.slice none 0 0] w fun e w' => e = .returned (.bool true) ∧ Below w.heap.size w w' := by
  have HX : Hid (rootAns [] = .tuple #[.string (Pl.root []), .int .i64 0]) := rootAns_yes rfl
  go_enter Try.func19, Try.ntmps19
  go_wp2_with fail
  refine (handed_nil w).mono ?_
  rintro e w1 ⟨rfl, rfl⟩
  go_wp2_with fail
  refine (troot_any none 0 [] _ (by simp) (by omega) (row_nil _)).mono ?_
  rintro e w2 ⟨rfl, hb⟩
  rw [HX.out]
  go_wp2_with fail
  refine (still_nil _).mono ?_
  rintro e w3 ⟨rfl, rfl⟩
  go_wp2_with fail
  refine (rtroot_any none 0 [] _ (by simp) (by omega) (row_nil _)).mono ?_
  rintro e w4 ⟨rfl, hb4⟩
  rw [HX.out]
  go_wp2_with fail
  go_ret
  exact ⟨rfl, hb.trans (hb4.mono hb.size)⟩

set_option maxRecDepth 100000 in
set_option maxHeartbeats 1000000 in
theorem roots_by (v : Value) (w : World) (hv : ∀ w', Below w.heap.size w w' → Calls Try.prog 19 #[v] w' fun e w'' => e = .returned (.bool true) ∧ Below w'.heap.size w' w'') :
    Calls Try.prog 4 #[v] w fun e w' => e = .returned (.bool true) ∧ Below w.heap.size w w' := by
  have HV : Hid _ := hv
  clear hv
  go_enter Try.func4, Try.ntmps4
  go_wp2_with fail
  refine (troot_any (some ⟨w.heap.size, 0, none⟩) 3 abc _ (by decide) (by decide) (Row.lit w abc (by decide) abc_sizes)).mono ?_
  rintro e w1 ⟨rfl, hb1⟩
  rw [rootAns_yes abc_ok]
  have k1 : Below w.heap.size w w1 := ((Below.refl _ _).alloc (Nat.le_refl _) _).trans (hb1.mono (by simp))
  clear hb1
  go_wp2_with fail
  refine (three_any _).mono ?_
  rintro e w2 ⟨rfl, rfl⟩
  go_wp2_with fail
  refine (rooted_some _ 3 abc _ (Row.lit w1 abc (by decide) abc_sizes) (by decide) (by decide) (by decide)).mono ?_
  rintro e w3 ⟨rfl, hb3⟩
  have k3 : Below w.heap.size w w3 := (k1.alloc k1.size _).trans (hb3.mono (by have := k1.size; simp; omega))
  clear hb3
  go_wp2_with fail
  refine (HV.out _ k3).mono ?_
  rintro e w4 ⟨rfl, hb4⟩
  go_wp2_with fail
  go_ret
  exact ⟨rfl, k3.trans (hb4.mono k3.size)⟩

theorem IsRow.grow {w w' : World} {v : Value} {ss : List ByteArray} {B : Nat} (h : IsRow w v ss) (hb : Below B w w') (hB : w.heap.size ≤ B) : IsRow w' v ss := by
  rcases h with h | ⟨a, cap, rfl, hc, hm, hr⟩
  · exact Or.inl h
  · exact Or.inr ⟨a, cap, rfl, hc, hm, hr.grow hb hB⟩
theorem rooted_row (v : Value) (ss : List ByteArray) (w : World) (hr : IsRow w v ss) :
    Calls Try.prog 19 #[v] w fun e w' => e = .returned (.bool true) ∧ Below w.heap.size w w' := by
  rcases hr with ⟨rfl, rfl⟩ | ⟨a, cap, rfl, hc, hm, hr⟩
  · exact rooted_nil w
  · exact rooted_some a cap ss w hr hc (by omega) (by omega)
theorem roots_walk (v : Value) (ss : List ByteArray) (w : World) (hr : IsRow w v ss) :
    Calls Try.prog 4 #[v] w fun e w' => e = .returned (.bool true) ∧ Below w.heap.size w w' :=
  roots_by v w fun w' hb => rooted_row v ss w' (hr.grow hb (Nat.le_refl _))

end Go.Proofs.Ytkhnjipjbhcgdaa
