/-
  THE WALK of treeheadlaw.Clashes.
-/
import Derived.Test.YtkhnjipjbhcgdaaTClash
import Derived.Test.YtkhnjipjbhcgdaaRClash3
import Derived.Test.YtkhnjipjbhcgdaaHand
import Derived.Test.YtkhnjipjbhcgdaaOpen2
namespace Go.Proofs.Ytkhnjipjbhcgdaa
open Go.RowKit Hp

theorem rowOf_row2 (w : World) (D : Nat) (ss : List ByteArray) (hl : ss.length ≤ maxLen) (hs : ∀ s ∈ ss, s.size ≤ maxLen) (h : Box w D 9 (rowOf ss 8)) : Row w (some ⟨D, 0, none⟩) ss := by
  refine ⟨hl, hs, Or.inr ⟨D, 0, rfl, h.lt, fun i hi => ?_⟩⟩
  rw [Nat.zero_add, h.cell i]
  exact rowOf_at ss i hi
/-- What was handed over: nothing, or the texts with spare room behind. -/
def Hnd (w : World) (B : Nat) (p : Option Addr) (c : Nat) (q : Option Addr) (N : Nat) (ss : List ByteArray) : Prop :=
  (p = none ∧ c = 0 ∧ q = none ∧ N = 0 ∧ ss = []) ∨ ∃ g, q = some ⟨g, 0, none⟩ ∧ N = ss.length + 8 ∧ B ≤ g ∧ Box w g 9 (rowOf ss 8)
theorem Hnd.row {w : World} {B c N : Nat} {p q : Option Addr} {ss : List ByteArray} (h : Hnd w B p c q N ss) (hl : ss.length ≤ maxLen) (hs : ∀ s ∈ ss, s.size ≤ maxLen) : Row w q ss := by
  rcases h with ⟨_, _, rfl, _, rfl⟩ | ⟨g, rfl, _, _, hb⟩
  · exact row_nil w
  · exact rowOf_row2 w g ss hl hs hb
theorem Hnd.len {w : World} {B c N : Nat} {p q : Option Addr} {ss : List ByteArray} (h : Hnd w B p c q N ss) : ss.length ≤ N ∧ N ≤ ss.length + 8 := by
  rcases h with ⟨_, _, _, rfl, rfl⟩ | ⟨g, _, rfl, _⟩
  · exact ⟨by simp, by simp⟩
  · omega
theorem Hnd.grow {w w' : World} {B c N : Nat} {p q : Option Addr} {ss : List ByteArray} (h : Hnd w B p c q N ss) (hb : Below w.heap.size w w') : Hnd w' B p c q N ss := by
  rcases h with h | ⟨g, h1, h2, h3, h4⟩
  · exact Or.inl h
  · exact Or.inr ⟨g, h1, h2, h3, h4.grow hb h4.lt⟩
theorem Hnd.turn {X : Nat → Prop} {w w' : World} {B c N : Nat} {p q : Option Addr} {ss : List ByteArray} (h : Hnd w B p c q N ss) (hb : Turn X w w') (hX : ∀ g, q = some ⟨g, 0, none⟩ → ¬ X g) : Hnd w' B p c q N ss := by
  rcases h with h | ⟨g, h1, h2, h3, h4⟩
  · exact Or.inl h
  · exact Or.inr ⟨g, h1, h2, h3, h4.turn hb (hX g h1)⟩
theorem Hnd.lt {w : World} {B c N : Nat} {p q : Option Addr} {ss : List ByteArray} (h : Hnd w B p c q N ss) : ∀ g, q = some ⟨g, 0, none⟩ → B ≤ g ∧ g < w.heap.size := by
  intro g hg
  rcases h with ⟨_, _, h1, _⟩ | ⟨g', h1, h2, h3, h4⟩
  · rw [h1] at hg; cases hg
  · rw [h1] at hg
    simp only [Option.some.injEq, Addr.mk.injEq, and_true] at hg
    subst hg
    exact ⟨h3, h4.lt⟩
/-- A list that came in: nil, or within reach. -/
def Inc (p : Option Addr) (c : Nat) (ss : List ByteArray) : Prop := (p = none ∧ c = 0 ∧ ss = []) ∨ ((∃ a, p = some a) ∧ ss.length ≤ c ∧ c * 16 ≤ 140737488351232)
theorem Inc.len {p : Option Addr} {c : Nat} {ss : List ByteArray} (h : Inc p c ss) : ss.length ≤ c ∧ c ≤ 9223372036854775807 := by
  rcases h with ⟨_, rfl, rfl⟩ | ⟨_, h1, h2⟩
  · exact ⟨by simp, by omega⟩
  · omega
theorem handed_any (p : Option Addr) (c : Nat) (ss : List ByteArray) (w : World) (hr : Row w p ss) (hi : Inc p c ss) :
    Calls Try.prog 14 #[.slice p ss.length c] w fun e w' => ∃ q N, e = .returned (.slice q N N) ∧ Hnd w' w.heap.size p c q N ss ∧ Below w.heap.size w w' := by
  rcases hi with ⟨rfl, rfl, rfl⟩ | ⟨⟨a, rfl⟩, hc, hm⟩
  · exact (handed_nil w).mono fun e w' ⟨he, hw⟩ => ⟨none, 0, he, Or.inl ⟨rfl, rfl, rfl, rfl, rfl⟩, by rw [hw]; exact Below.refl _ _⟩
  · refine (handed_some a c ss w hr (by omega)).mono fun e w' ⟨he, hw⟩ => ⟨_, _, he, ?_, ?_⟩
    · rw [hw]
      exact Or.inr ⟨w.heap.size, rfl, rfl, Nat.le_refl _, Box.new w _ _⟩
    · rw [hw]
      exact (Below.refl _ _).alloc (Nat.le_refl _) _
theorem still_any (p : Option Addr) (c : Nat) (ss : List ByteArray) (B N : Nat) (q : Option Addr) (w : World) (hr : Row w p ss) (hi : Inc p c ss) (hq : Hnd w B p c q N ss) (hB : ∀ b o, ss ≠ [] → p = some ⟨b, o, none⟩ → b < B) :
    Calls Try.prog 16 #[.slice q N N, .slice p ss.length c] w fun e w' => e = .returned (.bool true) ∧ Turn (fun k => q = some ⟨k, 0, none⟩) w w' := by
  rcases hq with ⟨rfl, rfl, rfl, rfl, rfl⟩ | ⟨g, rfl, rfl, hg, hbox⟩
  · exact (still_nil w).mono fun e w' ⟨he, hw⟩ => ⟨he, by rw [hw]; exact Turn.refl _ _⟩
  · have hl : 16 * (ss.length + 8) ≤ 281474976710656 := by
      rcases hi with ⟨_, _, rfl⟩ | ⟨_, h1, h2⟩
      · simp
      · omega
    refine (still_some g p c ss w hr (fun b o hne he => ?_) hbox hl).mono fun e w' ⟨he, ho⟩ => ⟨he, ?_⟩
    · have := hB b o hne he
      omega
    · exact ⟨ho.os, ho.tape, ho.output, Nat.le_of_eq ho.size.symm, fun k hk hX => ho.block k (fun h => hX (by rw [h]))⟩

theorem clash_first : clashA 1 0 ⟨#[1, 1]⟩ [] 1 0 ⟨#[250, 35]⟩ [] [] = (⟨#[76, 1, 1]⟩, ⟨#[76, 250, 35]⟩, 0) := by decide +kernel

set_option maxRecDepth 100000 in
set_option maxHeartbeats 8000000 in
theorem clashes_core (n1 i1 : Int) (l1 : ByteArray) (p1 : Option Addr) (s1 : List ByteArray) (c1 : Nat) (n2 i2 : Int) (l2 : ByteArray) (p2 : Option Addr) (s2 : List ByteArray) (c2 : Nat) (p3 : Option Addr) (s3 : List ByteArray) (c3 : Nat) (w : World)
    (hl1 : l1.size ≤ maxLen) (hl2 : l2.size ≤ maxLen) (hr1 : Row w p1 s1) (hr2 : Row w p2 s2) (hr3 : Row w p3 s3) (hi1 : Inc p1 c1 s1) (hi2 : Inc p2 c2 s2) (hi3 : Inc p3 c3 s3) :
    Calls Try.prog 9 #[.agg #[.int .i64 n1, .int .i64 i1, .string l1, .slice p1 s1.length c1], .agg #[.int .i64 n2, .int .i64 i2, .string l2, .slice p2 s2.length c2], .slice p3 s3.length c3] w fun e w' => e = .returned (.bool true) ∧ Below w.heap.size w w' := by
  have hx0 : Box ((w.alloc (.cells #[.int .i64 n1, .int .i64 i1, .string l1, .slice p1 s1.length c1] 36)).alloc (.cells #[.int .i64 n2, .int .i64 i2, .string l2, .slice p2 s2.length c2] 36)) w.heap.size 36 [.int .i64 n1, .int .i64 i1, .string l1, .slice p1 s1.length c1] := (Box.new w 36 [.int .i64 n1, .int .i64 i1, .string l1, .slice p1 s1.length c1]).alloc _
  have hy0 : Box ((w.alloc (.cells #[.int .i64 n1, .int .i64 i1, .string l1, .slice p1 s1.length c1] 36)).alloc (.cells #[.int .i64 n2, .int .i64 i2, .string l2, .slice p2 s2.length c2] 36)) (w.heap.size + 1) 36 [.int .i64 n2, .int .i64 i2, .string l2, .slice p2 s2.length c2] := Box.new2 w _ 36 [.int .i64 n2, .int .i64 i2, .string l2, .slice p2 s2.length c2]
  have hk0 : Below w.heap.size w ((w.alloc (.cells #[.int .i64 n1, .int .i64 i1, .string l1, .slice p1 s1.length c1] 36)).alloc (.cells #[.int .i64 n2, .int .i64 i2, .string l2, .slice p2 s2.length c2] 36)) := ((Below.refl _ _).alloc (Nat.le_refl _) _).alloc (by simp) _
  have HC0 : Hid (∀ w, Calls Try.prog 40 #[.agg #[.int .i64 1, .int .i64 0, .string ⟨#[1, 1]⟩, .slice none 0 0], .agg #[.int .i64 1, .int .i64 0, .string ⟨#[250, 35]⟩, .slice none 0 0], .slice none 0 0] w fun e w' => e = .returned (.tuple #[.string ⟨#[76, 1, 1]⟩, .string ⟨#[76, 250, 35]⟩, .int .i64 0]) ∧ Below w.heap.size w w') := fun w => by
    have h := tclash_any 1 0 ⟨#[1, 1]⟩ none [] 0 1 0 ⟨#[250, 35]⟩ none [] 0 none [] 0 w (by decide) (by decide) (row_nil w) (row_nil w) (row_nil w) (by simp)
    rwa [clash_first] at h
  have HR1 : Hid _ := hr1
  have HR2 : Hid _ := hr2
  have HR3 : Hid _ := hr3
  have HI1 : Hid _ := hi1
  have HI2 : Hid _ := hi2
  have HI3 : Hid _ := hi3
  clear hr1 hr2 hr3 hi1 hi2 hi3
  go_enter Try.func9, Try.ntmps9
  go_wp2_with fail
  refine (HC0.out _).mono ?_
  rintro e w1 ⟨rfl, hb1⟩
  have hx1 := hx0.grow hb1 hx0.lt
  have hy1 := hy0.grow hb1 hy0.lt
  have hk1 := hk0.trans (hb1.mono hk0.size)
  clear hb1 hx0 hy0 hk0 HC0
  have a3 := hx1.cell 3
  go_wp2_with fail
  refine (handed_any p1 c1 s1 _ (HR1.out.grow hk1 (Nat.le_refl _)) HI1.out).mono ?_
  rintro e w2 ⟨q1, N1, rfl, hd1, hb2⟩
  have hx2 := hx1.grow hb2 hx1.lt
  have hy2 := hy1.grow hb2 hy1.lt
  have hk2 := hk1.trans (hb2.mono hk1.size)
  have HD1 : Hid _ := hd1
  have hw1 := hy1.lt
  have G1 : Hid (∀ g, q1 = some ⟨g, 0, none⟩ → w.heap.size + 1 < g ∧ g < w2.heap.size) := fun g hg => by
    have := Hnd.lt hd1 g hg
    omega
  clear hw1
  clear hb2 hd1 hx1 hy1 a3
  have a3 := hy2.cell 3
  go_wp2_with fail
  refine (handed_any p2 c2 s2 _ (HR2.out.grow hk2 (Nat.le_refl _)) HI2.out).mono ?_
  rintro e w3 ⟨q2, N2, rfl, hd2, hb3⟩
  have hx3 := hx2.grow hb3 hx2.lt
  have hy3 := hy2.grow hb3 hy2.lt
  have hk3 := hk2.trans (hb3.mono hk2.size)
  have hs23 := hb3.size
  have HD1b : Hid _ := Hnd.grow HD1.out hb3
  have HD2 : Hid _ := hd2
  have G2 : Hid (∀ g, q2 = some ⟨g, 0, none⟩ → w2.heap.size ≤ g ∧ g < w3.heap.size) := Hnd.lt hd2
  have hw23 := hy2.lt
  clear hb3 hd2 hx2 hy2 a3 HD1
  go_wp2_with fail
  refine (handed_any p3 c3 s3 _ (HR3.out.grow hk3 (Nat.le_refl _)) HI3.out).mono ?_
  rintro e w4 ⟨q3, N3, rfl, hd3, hb4⟩
  have hx4 := hx3.grow hb4 hx3.lt
  have hy4 := hy3.grow hb4 hy3.lt
  have hk4 := hk3.trans (hb4.mono hk3.size)
  have HD1c : Hid _ := Hnd.grow HD1b.out hb4
  have HD2c : Hid _ := Hnd.grow HD2.out hb4
  have HD3 : Hid _ := hd3
  have hw34 := hy3.lt
  have hb3s : w2.heap.size ≤ w3.heap.size := hs23
  have G3 : Hid (∀ g, q3 = some ⟨g, 0, none⟩ → w3.heap.size ≤ g) := fun g hg => (Hnd.lt hd3 g hg).1
  have e1 := hd3.len
  have e2 := Hnd.len HD2.out
  have e3 := Hnd.len HD1b.out
  have L1 := Inc.len HI1.out
  have L2 := Inc.len HI2.out
  have L3 := Inc.len HI3.out
  clear hb4 hd3 hx3 hy3 HD1b HD2
  have a0 := hx4.cell 0
  have a1 := hx4.cell 1
  have a2 := hx4.cell 2
  have a3 := hx4.cell 3
  have b0 := hy4.cell 0
  have b1 := hy4.cell 1
  have b2 := hy4.cell 2
  have b3 := hy4.cell 3
  have m0 := hx4.lt
  have m1 := hy4.lt
  go_upto_region 11 with fail
  have hbW : Below w4.heap.size w4 ((w4.alloc (.cells #[.int .i64 n1, .int .i64 i1, .string l1, .slice q1 s1.length N1] 36)).alloc (.cells #[.int .i64 n2, .int .i64 i2, .string l2, .slice q2 s2.length N2] 36)) := ((Below.refl _ _).alloc (Nat.le_refl _) _).alloc (by simp) _
  have hA5 : Box ((w4.alloc (.cells #[.int .i64 n1, .int .i64 i1, .string l1, .slice q1 s1.length N1] 36)).alloc (.cells #[.int .i64 n2, .int .i64 i2, .string l2, .slice q2 s2.length N2] 36)) w4.heap.size 36 [.int .i64 n1, .int .i64 i1, .string l1, .slice q1 s1.length N1] := (Box.new w4 36 [.int .i64 n1, .int .i64 i1, .string l1, .slice q1 s1.length N1]).alloc _
  have hB5 : Box ((w4.alloc (.cells #[.int .i64 n1, .int .i64 i1, .string l1, .slice q1 s1.length N1] 36)).alloc (.cells #[.int .i64 n2, .int .i64 i2, .string l2, .slice q2 s2.length N2] 36)) (w4.heap.size + 1) 36 [.int .i64 n2, .int .i64 i2, .string l2, .slice q2 s2.length N2] := Box.new2 w4 _ 36 [.int .i64 n2, .int .i64 i2, .string l2, .slice q2 s2.length N2]
  have hx5 := hx4.grow hbW hx4.lt
  have hy5 := hy4.grow hbW hy4.lt
  have hk5 := hk4.trans (hbW.mono hk4.size)
  have HD1d : Hid _ := Hnd.grow HD1c.out hbW
  have HD2d : Hid _ := Hnd.grow HD2c.out hbW
  have HD3d : Hid _ := Hnd.grow HD3.out hbW
  clear a0 a1 a2 a3 b0 b1 b2 b3 m0 m1 hx4 hy4 hbW HD1c HD2c HD3
  generalize ((w4.alloc (.cells #[.int .i64 n1, .int .i64 i1, .string l1, .slice q1 s1.length N1] 36)).alloc (.cells #[.int .i64 n2, .int .i64 i2, .string l2, .slice q2 s2.length N2] 36)) = W5 at *
  generalize w4.heap.size = A5 at *
  have HCl : Hid (Calls Try.prog 40 #[.agg #[.int .i64 n1, .int .i64 i1, .string l1, .slice q1 s1.length N1], .agg #[.int .i64 n2, .int .i64 i2, .string l2, .slice q2 s2.length N2], .slice q3 s3.length N3] W5.drew fun e w' => e = .returned (.tuple #[.string (clashA n1 i1 l1 s1 n2 i2 l2 s2 s3).1, .string (clashA n1 i1 l1 s1 n2 i2 l2 s2 s3).2.1, .int .i64 (clashA n1 i1 l1 s1 n2 i2 l2 s2 s3).2.2]) ∧ Below W5.heap.size W5 w') := by
    have h := tclash_any n1 i1 l1 q1 s1 N1 n2 i2 l2 q2 s2 N2 q3 s3 N3 W5.drew hl1 hl2 (Row.drew (Hnd.row HD1d.out HR1.out.len HR1.out.size)) (Row.drew (Hnd.row HD2d.out HR2.out.len HR2.out.size)) (Row.drew (Hnd.row HD3d.out HR3.out.len HR3.out.size)) e1.1
    exact h.mono fun e w' ⟨he, hb⟩ => ⟨he, (Below.refl _ W5).drew.trans hb⟩
  have HRl : Hid (∀ w', Below w.heap.size w w' → Calls Try.prog 41 #[.agg #[.int .i64 n1, .int .i64 i1, .string l1, .slice p1 s1.length c1], .agg #[.int .i64 n2, .int .i64 i2, .string l2, .slice p2 s2.length c2], .slice p3 s3.length c3] w' fun e w'' => e = .returned (.tuple #[.string (clashA n1 i1 l1 s1 n2 i2 l2 s2 s3).1, .string (clashA n1 i1 l1 s1 n2 i2 l2 s2 s3).2.1, .int .i64 (clashA n1 i1 l1 s1 n2 i2 l2 s2 s3).2.2]) ∧ Below w'.heap.size w' w'') := fun w' hb =>
    rclash_any n1 i1 l1 p1 s1 c1 n2 i2 l2 p2 s2 c2 p3 s3 c3 w' (HR1.out.grow hb (Nat.le_refl _)) (HR2.out.grow hb (Nat.le_refl _)) (HR3.out.grow hb (Nat.le_refl _)) L1.1 L1.2 L2.1 L2.2 L3.1 L3.2
  generalize (clashA n1 i1 l1 s1 n2 i2 l2 s2 s3).1 = X at *
  generalize (clashA n1 i1 l1 s1 n2 i2 l2 s2 s3).2.1 = Y at *
  generalize (clashA n1 i1 l1 s1 n2 i2 l2 s2 s3).2.2 = E at *
  have a0 := hA5.cell 0
  have a1 := hA5.cell 1
  have a2 := hA5.cell 2
  have a3 := hA5.cell 3
  have b0 := hB5.cell 0
  have b1 := hB5.cell 1
  have b2 := hB5.cell 2
  have b3 := hB5.cell 3
  go_region_held3 (fun w' => w'.cell? ⟨A5, 0, none⟩ = some (.int .i64 n1) ∧ w'.cell? ⟨A5, 1, none⟩ = some (.int .i64 i1) ∧ w'.cell? ⟨A5, 2, none⟩ = some (.string l1) ∧ w'.cell? ⟨A5, 3, none⟩ = some (.slice q1 s1.length N1) ∧ w'.cell? ⟨A5 + 1, 0, none⟩ = some (.int .i64 n2) ∧ w'.cell? ⟨A5 + 1, 1, none⟩ = some (.int .i64 i2) ∧ w'.cell? ⟨A5 + 1, 2, none⟩ = some (.string l2) ∧ w'.cell? ⟨A5 + 1, 3, none⟩ = some (.slice q2 s2.length N2)) (go_keep) (first
    | (go_at_call 40; refine Calls.mono HCl.out ?_; rintro e w6 ⟨rfl, hb6⟩; have hA6 := hA5.grow hb6 hA5.lt; have hB6 := hB5.grow hb6 hB5.lt; have x0 := hA6.cell 0; have x1 := hA6.cell 1; have x2 := hA6.cell 2; have x3 := hA6.cell 3; have y0 := hB6.cell 0; have y1 := hB6.cell 1; have y2 := hB6.cell 2; have y3 := hB6.cell 3))
  all_goals
    have hx6 := hx5.grow hb6 hx5.lt
    have hy6 := hy5.grow hb6 hy5.lt
    have hk6 := hk5.trans (hb6.mono hk5.size)
    have HD1e : Hid _ := Hnd.grow HD1d.out hb6
    have HD2e : Hid _ := Hnd.grow HD2d.out hb6
    have HD3e : Hid _ := Hnd.grow HD3d.out hb6
    clear x0 x1 x2 x3 y0 y1 y2 y3 hA6 hB6 a0 a1 a2 a3 b0 b1 b2 b3 hA5 hB5 hx5 hy5 hk5 hb6 HD1d HD2d HD3d HCl
    have B1 : Hid (∀ b o, s1 ≠ [] → p1 = some ⟨b, o, none⟩ → b < w1.heap.size) := fun b o hne hp => Nat.lt_of_lt_of_le (HR1.out.lt b o hne hp) hk1.size
    have B2 : Hid (∀ b o, s2 ≠ [] → p2 = some ⟨b, o, none⟩ → b < w2.heap.size) := fun b o hne hp => Nat.lt_of_lt_of_le (HR2.out.lt b o hne hp) hk2.size
    have B3 : Hid (∀ b o, s3 ≠ [] → p3 = some ⟨b, o, none⟩ → b < w3.heap.size) := fun b o hne hp => Nat.lt_of_lt_of_le (HR3.out.lt b o hne hp) hk3.size
    have S1 : Hid _ := still_any p1 c1 s1 w1.heap.size N1 q1 w6 (HR1.out.grow hk6 (Nat.le_refl _)) HI1.out HD1e.out B1.out
    have a3 := hx6.cell 3
    go_wp2_with fail
    refine Calls.mono S1.out ?_
    rintro e w7 ⟨rfl, ht7⟩
    have hx7 := hx6.turn ht7 (fun h => by have := G1.out _ h; omega)
    have hy7 := hy6.turn ht7 (fun h => by have := G1.out _ h; omega)
    have hk7 : Below w.heap.size w w7 := hk6.trans (ht7.below (fun k h => by have := G1.out k h; omega) hk6.size)
    have HD2f : Hid _ := Hnd.turn HD2e.out ht7 (fun g hg h => by have := G1.out g h; have := G2.out g hg; omega)
    have HD3f : Hid _ := Hnd.turn HD3e.out ht7 (fun g hg h => by have := G1.out g h; have := G3.out g hg; omega)
    have S2 : Hid _ := still_any p2 c2 s2 w2.heap.size N2 q2 w7 (HR2.out.grow hk7 (Nat.le_refl _)) HI2.out HD2f.out B2.out
    clear a3 hx6 hy6 hk6 ht7 HD1e HD2e HD3e S1
    have a3 := hy7.cell 3
    go_wp2_with fail
    refine Calls.mono S2.out ?_
    rintro e w8 ⟨rfl, ht8⟩
    have hx8 := hx7.turn ht8 (fun h => by have := G2.out _ h; omega)
    have hy8 := hy7.turn ht8 (fun h => by have := G2.out _ h; omega)
    have hk8 : Below w.heap.size w w8 := hk7.trans (ht8.below (fun k h => by have := G2.out k h; omega) hk7.size)
    have HD3g : Hid _ := Hnd.turn HD3f.out ht8 (fun g hg h => by have := G2.out g h; have := G3.out g hg; omega)
    have S3 : Hid _ := still_any p3 c3 s3 w3.heap.size N3 q3 w8 (HR3.out.grow hk8 (Nat.le_refl _)) HI3.out HD3g.out B3.out
    clear a3 hx7 hy7 hk7 ht8 HD2f HD3f S2
    go_wp2_with fail
    refine Calls.mono S3.out ?_
    rintro e w9 ⟨rfl, ht9⟩
    have hx9 := hx8.turn ht9 (fun h => by have := G3.out _ h; omega)
    have hy9 := hy8.turn ht9 (fun h => by have := G3.out _ h; omega)
    have hk9 : Below w.heap.size w w9 := hk8.trans (ht9.below (fun k h => by have := G3.out k h; omega) hk8.size)
    clear hx8 hy8 hk8 ht9 HD3g S3
    have a0 := hx9.cell 0
    have a1 := hx9.cell 1
    have a2 := hx9.cell 2
    have a3 := hx9.cell 3
    have b0 := hy9.cell 0
    have b1 := hy9.cell 1
    have b2 := hy9.cell 2
    have b3 := hy9.cell 3
    go_wp2_with fail
    refine (HRl.out _ hk9).mono ?_
    rintro e wa ⟨rfl, hba⟩
    have hka := hk9.trans (hba.mono hk9.size)
    clear hba
    go_wp2_with fail
    go_ret
    exact ⟨rfl, hka⟩

theorem IsRow.inc {w : World} {v : Value} {ss : List ByteArray} (h : IsRow w v ss) : ∃ p c, v = .slice p ss.length c ∧ Row w p ss ∧ Inc p c ss := by
  rcases h with ⟨rfl, rfl⟩ | ⟨a, cap, rfl, hc, hm, hr⟩
  · exact ⟨none, 0, rfl, row_nil w, Or.inl ⟨rfl, rfl, rfl⟩⟩
  · exact ⟨some a, cap, rfl, hr, Or.inr ⟨⟨a, rfl⟩, hc, hm⟩⟩
theorem clashes_walk (v1 : Value) (n1 i1 : Int) (l1 : ByteArray) (s1 : List ByteArray) (v2 : Value) (n2 i2 : Int) (l2 : ByteArray) (s2 : List ByteArray) (v3 : Value) (s3 : List ByteArray) (w : World) (h1 : IsAnswer w v1 n1 i1 l1 s1) (h2 : IsAnswer w v2 n2 i2 l2 s2) (h3 : IsRow w v3 s3) :
    Calls Try.prog 9 #[v1, v2, v3] w fun e w' => e = .returned (.bool true) ∧ Below w.heap.size w w' := by
  obtain ⟨pv1, rfl, _, _, hl1, hr1⟩ := h1
  obtain ⟨pv2, rfl, _, _, hl2, hr2⟩ := h2
  obtain ⟨p1, c1, rfl, hr1, hi1⟩ := hr1.inc
  obtain ⟨p2, c2, rfl, hr2, hi2⟩ := hr2.inc
  obtain ⟨p3, c3, rfl, hr3, hi3⟩ := h3.inc
  exact clashes_core n1 i1 l1 p1 s1 c1 n2 i2 l2 p2 s2 c2 p3 s3 c3 w hl1 hl2 hr1 hr2 hr3 hi1 hi2 hi3
end Go.Proofs.Ytkhnjipjbhcgdaa
