/-
  THE WALKS of treeheadlaw.checks, treeheadlaw.Checks.
-/
import Derived.Test.YtkhnjipjbhcgdaaTExt2
import Derived.Test.YtkhnjipjbhcgdaaRCheck
import Derived.Test.YtkhnjipjbhcgdaaPaths
import Derived.Test.YtkhnjipjbhcgdaaOpen2
namespace Go.Proofs.Ytkhnjipjbhcgdaa
open Go.RowKit

theorem inclE_eq (r : ByteArray) (size index : Int) (leaf : ByteArray) (P : List ByteArray) : inclE r size index leaf P = inclA r size index leaf P := by
  unfold inclE inclA
  cases Pl.leafT leaf index.toNat size.toNat P with
  | none => rfl
  | some x => rfl
theorem extE_eq (os : Int) (a : ByteArray) (fs : Int) (b : ByteArray) (P : List ByteArray) : extE os a fs b P = extA os a fs b P := by
  unfold extE extA extV
  cases Pl.bothT a os.toNat fs.toNat true P with
  | none => rfl
  | some x => rfl
theorem Box.only {w w' : World} {B D : Nat} {t : TypeId} {l : List Value} (h : Box w B t l) (ho : Only D w w') (hne : B ≠ D) : Box w' B t l := by
  unfold Box
  rw [ho.block B hne]
  exact h
theorem rowOf_row (w : World) (D : Nat) (ss : List ByteArray) (hl : ss.length ≤ maxLen) (hs : ∀ s ∈ ss, s.size ≤ maxLen) (h : Box w D 9 (rowOf ss 8)) : Row w (some ⟨D, 0, none⟩) ss := by
  refine ⟨hl, hs, Or.inr ⟨D, 0, rfl, h.lt, fun i hi => ?_⟩⟩
  rw [Nat.zero_add, h.cell i]
  exact rowOf_at ss i hi

set_option maxRecDepth 100000 in
set_option maxHeartbeats 2000000 in
theorem checks_ss (root : ByteArray) (size index : Int) (leaf : ByteArray) (os fs : Int) (a b : ByteArray) (a1 : Addr) (c1 : Nat) (ss : List ByteArray) (a2 : Addr) (c2 : Nat) (qq : List ByteArray) (w : World) (hz1 : root.size ≤ maxLen) (hz2 : leaf.size ≤ maxLen) (hz3 : a.size ≤ maxLen) (hz4 : b.size ≤ maxLen) (hr1 : Row w (some a1) ss) (hc1 : ss.length ≤ c1) (hm1 : c1 * 16 ≤ 140737488351232) (hr2 : Row w (some a2) qq) (hc2 : qq.length ≤ c2) (hm2 : c2 * 16 ≤ 140737488351232) :
    Calls Try.prog 28 #[.string root, .agg #[.int .i64 size, .int .i64 index, .string leaf, .slice (some a1) ss.length c1], .agg #[.int .i64 os, .string a], .agg #[.int .i64 fs, .string b], .slice (some a2) qq.length c2] w fun e w' => e = .returned (.bool true) ∧ Below w.heap.size w w' := by
  have hk0 : Below w.heap.size w (((w.alloc (.cells #[.int .i64 size, .int .i64 index, .string leaf, .slice (some a1) ss.length c1] 36)).alloc (.cells #[.int .i64 os, .string a] 38)).alloc (.cells #[.int .i64 fs, .string b] 38)) := (((Below.refl _ _).alloc (Nat.le_refl _) _).alloc (by simp) _).alloc (by simp; omega) _
  have hA0 : Box (((w.alloc (.cells #[.int .i64 size, .int .i64 index, .string leaf, .slice (some a1) ss.length c1] 36)).alloc (.cells #[.int .i64 os, .string a] 38)).alloc (.cells #[.int .i64 fs, .string b] 38)) w.heap.size 36 [.int .i64 size, .int .i64 index, .string leaf, .slice (some a1) ss.length c1] := ((Box.new w 36 [.int .i64 size, .int .i64 index, .string leaf, .slice (some a1) ss.length c1]).alloc _).alloc _
  have hB0 : Box (((w.alloc (.cells #[.int .i64 size, .int .i64 index, .string leaf, .slice (some a1) ss.length c1] 36)).alloc (.cells #[.int .i64 os, .string a] 38)).alloc (.cells #[.int .i64 fs, .string b] 38)) (w.heap.size + 1) 38 [.int .i64 os, .string a] := by
    have := (Box.new (w.alloc (.cells #[.int .i64 size, .int .i64 index, .string leaf, .slice (some a1) ss.length c1] 36)) 38 [.int .i64 os, .string a]).alloc (.cells #[.int .i64 fs, .string b] 38)
    rwa [show (w.alloc (.cells #[.int .i64 size, .int .i64 index, .string leaf, .slice (some a1) ss.length c1] 36)).heap.size = w.heap.size + 1 by simp] at this
  have hC0 : Box (((w.alloc (.cells #[.int .i64 size, .int .i64 index, .string leaf, .slice (some a1) ss.length c1] 36)).alloc (.cells #[.int .i64 os, .string a] 38)).alloc (.cells #[.int .i64 fs, .string b] 38)) (w.heap.size + 2) 38 [.int .i64 fs, .string b] := by
    have := Box.new ((w.alloc (.cells #[.int .i64 size, .int .i64 index, .string leaf, .slice (some a1) ss.length c1] 36)).alloc (.cells #[.int .i64 os, .string a] 38)) 38 [.int .i64 fs, .string b]
    rwa [show ((w.alloc (.cells #[.int .i64 size, .int .i64 index, .string leaf, .slice (some a1) ss.length c1] 36)).alloc (.cells #[.int .i64 os, .string a] 38)).heap.size = w.heap.size + 2 by simp] at this
  have hl1 : 16 * (ss.length + 8) ≤ 281474976710656 := by omega
  have HL1 : Hid (ss.length ≤ maxLen ∧ ∀ s ∈ ss, s.size ≤ maxLen) := ⟨hr1.len, hr1.size⟩
  have HR1 : Hid _ := hr1.grow hk0 (Nat.le_refl _)
  have HN1 : Hid _ := hr1
  have u1 : (0 : Int) ≤ (ss.length : Int) := by omega
  have u2 : (ss.length : Int) ≤ ((ss.length + 8 : Nat) : Int) := by omega
  have u3 : (ss.length : Int) ≤ (ss.length : Int) + 8 := by omega
  have hl2 : 16 * (qq.length + 8) ≤ 281474976710656 := by omega
  have HL2 : Hid (qq.length ≤ maxLen ∧ ∀ s ∈ qq, s.size ≤ maxLen) := ⟨hr2.len, hr2.size⟩
  have HR2 : Hid _ := hr2.grow hk0 (Nat.le_refl _)
  have HN2 : Hid _ := hr2
  have v1 : (0 : Int) ≤ (qq.length : Int) := by omega
  have v2 : (qq.length : Int) ≤ ((qq.length + 8 : Nat) : Int) := by omega
  have v3 : (qq.length : Int) ≤ (qq.length : Int) + 8 := by omega
  have HI : Hid (∀ p cap w, Row w p ss → Calls Try.prog 26 #[.string root, .agg #[.int .i64 size, .int .i64 index, .string leaf, .slice p ss.length cap]] w fun e w' => e = .returned (.int .i64 (inclA root size index leaf ss)) ∧ Below w.heap.size w w') := fun p cap w h => tincl_any root size index leaf p cap ss w hz1 hz2 h
  have HX : Hid (∀ p cap w, Row w p qq → qq.length ≤ cap → Calls Try.prog 27 #[.agg #[.int .i64 os, .string a], .agg #[.int .i64 fs, .string b], .slice p qq.length cap] w fun e w' => e = .returned (.int .i64 (extA os a fs b qq)) ∧ Below w.heap.size w w') := fun p cap w h hc => text_any os fs a b p cap qq w hz3 hz4 h hc
  have HJ : Hid (∀ p cap w, Row w p ss → ss.length ≤ cap → cap ≤ 9223372036854775807 → Calls Try.prog 61 #[.string root, .agg #[.int .i64 size, .int .i64 index, .string leaf, .slice p ss.length cap]] w fun e w' => e = .returned (.int .i64 (inclA root size index leaf ss)) ∧ Below w.heap.size w w') := fun p cap w h hc hm => by
    have := rincluded_any root size index leaf p cap ss w hz1 h hc hm
    rwa [inclE_eq] at this
  have HY : Hid (∀ p cap w, Row w p qq → qq.length ≤ cap → cap ≤ 9223372036854775807 → Calls Try.prog 62 #[.agg #[.int .i64 os, .string a], .agg #[.int .i64 fs, .string b], .slice p qq.length cap] w fun e w' => e = .returned (.int .i64 (extA os a fs b qq)) ∧ Below w.heap.size w w') := fun p cap w h hc hm => by
    have := rextended_any os fs a b p cap qq w hz3 hz4 h hc hm
    rwa [extE_eq] at this
  generalize inclA root size index leaf ss = X at *
  generalize extA os a fs b qq = Y at *
  clear hr1
  clear hr2
  go_enter Try.func28, Try.ntmps28
  go_wp2_with fail
  have hs0 : w.heap.size + 3 ≤ (((w.alloc (.cells #[.int .i64 size, .int .i64 index, .string leaf, .slice (some a1) ss.length c1] 36)).alloc (.cells #[.int .i64 os, .string a] 38)).alloc (.cells #[.int .i64 fs, .string b] 38)).heap.size := by simp
  generalize (((w.alloc (.cells #[.int .i64 size, .int .i64 index, .string leaf, .slice (some a1) ss.length c1] 36)).alloc (.cells #[.int .i64 os, .string a] 38)).alloc (.cells #[.int .i64 fs, .string b] 38)) = W0 at *
  refine (handed_some a1 c1 ss W0 HR1.out hl1).mono ?_
  rintro e w1 ⟨rfl, rfl⟩
  have hk1 := hk0.alloc (by omega) (.cells (rowOf ss 8).toArray 9)
  have hA1 := hA0.alloc (.cells (rowOf ss 8).toArray 9)
  have hB1 := hB0.alloc (.cells (rowOf ss 8).toArray 9)
  have hC1 := hC0.alloc (.cells (rowOf ss 8).toArray 9)
  have hD1 := Box.new W0 9 (rowOf ss 8)
  clear hk0 hA0 hB0 hC0
  generalize W0.alloc (.cells (rowOf ss 8).toArray 9) = W1 at *
  have q0 := hA1.cell 0
  have q1 := hA1.cell 1
  have q2 := hA1.cell 2
  have q3 := hA1.cell 3
  go_wp2_with fail
  have hx1 := hA1.drew
  have q0 := hx1.cell 0
  have q1 := hx1.cell 1
  have q2 := hx1.cell 2
  have q3 := hx1.cell 3
  go_region_held3 (fun w' => w'.cell? ⟨w.heap.size, 0, none⟩ = some (.int .i64 size) ∧ w'.cell? ⟨w.heap.size, 1, none⟩ = some (.int .i64 index) ∧ w'.cell? ⟨w.heap.size, 2, none⟩ = some (.string leaf) ∧ w'.cell? ⟨w.heap.size, 3, none⟩ = some (.slice (some a1) ss.length c1)) (go_keep) (first
    | (go_at_call 26; refine (HI.out (some ⟨W0.heap.size, 0, none⟩) (ss.length + 8) _ (Row.drew (rowOf_row W1 W0.heap.size ss HL1.out.1 HL1.out.2 hD1))).mono ?_; rintro e w2 ⟨rfl, hb2⟩; obtain ⟨z0, z1, z2, z3, _⟩ := Hp.keep4 hb2 hx1.lt q0 q1 q2 q3))
  all_goals
    have hl1' := hA1.lt
    have hk2 : Below w.heap.size w w2 := hk1.drew.trans (hb2.mono (by simp; omega))
    have hA2 := hA1.drew.grow hb2 hA1.lt
    have hB2 := hB1.drew.grow hb2 hB1.lt
    have hC2 := hC1.drew.grow hb2 hC1.lt
    have hD2 := hD1.drew.grow hb2 hD1.lt
    clear hb2 hA1 hB1 hC1 q0 q1 q2 q3 hx1 z0 z1 z2 z3
    have q3 := hA2.cell 3
    go_wp2_with fail
    refine (still_some W0.heap.size (some a1) c1 ss w2 (HN1.out.grow hk2 (Nat.le_refl _)) (HN1.out.ne (by omega)) hD2 hl1).mono ?_
    rintro e w3 ⟨rfl, ho⟩
    have hk3 : Below w.heap.size w w3 := hk2.trans (ho.below (by omega))
    have hA3 := hA2.only ho (by omega)
    have hB3 := hB2.only ho (by omega)
    have hC3 := hC2.only ho (by omega)
    clear ho hA2 hB2 hC2 hD2 q3
    go_wp2_with fail
    refine (handed_some a2 c2 qq w3 (HN2.out.grow hk3 (Nat.le_refl _)) hl2).mono ?_
    rintro e w4 ⟨rfl, rfl⟩
    have hl3 := hA3.lt
    have hk4 := hk3.alloc (by omega) (.cells (rowOf qq 8).toArray 9)
    have hA4 := hA3.alloc (.cells (rowOf qq 8).toArray 9)
    have hB4 := hB3.alloc (.cells (rowOf qq 8).toArray 9)
    have hC4 := hC3.alloc (.cells (rowOf qq 8).toArray 9)
    have hE4 := Box.new w3 9 (rowOf qq 8)
    have hlC := hC3.lt
    clear hk3 hA3 hB3 hC3
    generalize w3.alloc (.cells (rowOf qq 8).toArray 9) = W4 at *
    have r0 := hB4.cell 0
    have r1 := hB4.cell 1
    have r2 := hC4.cell 0
    have r3 := hC4.cell 1
    go_wp2_with fail
    have hxB := hB4.drew
    have hxC := hC4.drew
    have r0 := hxB.cell 0
    have r1 := hxB.cell 1
    have r2 := hxC.cell 0
    have r3 := hxC.cell 1
    go_region_held3 (fun w' => w'.cell? ⟨w.heap.size + 1, 0, none⟩ = some (.int .i64 os) ∧ w'.cell? ⟨w.heap.size + 1, 1, none⟩ = some (.string a) ∧ w'.cell? ⟨w.heap.size + 2, 0, none⟩ = some (.int .i64 fs) ∧ w'.cell? ⟨w.heap.size + 2, 1, none⟩ = some (.string b)) (go_keep) (first
      | (go_at_call 27; refine (HX.out (some ⟨w3.heap.size, 0, none⟩) (qq.length + 8) _ (Row.drew (rowOf_row W4 w3.heap.size qq HL2.out.1 HL2.out.2 hE4)) (by simp)).mono ?_; rintro e w5 ⟨rfl, hb5⟩; obtain ⟨z4, z5, _⟩ := Hp.keep2 hb5 hxB.lt r0 r1; obtain ⟨z6, z7, _⟩ := Hp.keep2 hb5 hxC.lt r2 r3))
    all_goals
      have hl4 := hA4.lt
      have hk5 : Below w.heap.size w w5 := hk4.drew.trans (hb5.mono (by simp; omega))
      have hA5 := hA4.drew.grow hb5 hA4.lt
      have hB5 := hB4.drew.grow hb5 hB4.lt
      have hC5 := hC4.drew.grow hb5 hC4.lt
      have hE5 := hE4.drew.grow hb5 hE4.lt
      clear hb5 hA4 hB4 hC4 r0 r1 r2 r3 hxB hxC z4 z5 z6 z7
      go_wp2_with fail
      refine (still_some w3.heap.size (some a2) c2 qq w5 (HN2.out.grow hk5 (Nat.le_refl _)) (HN2.out.ne (by omega)) hE5 hl2).mono ?_
      rintro e w6 ⟨rfl, ho⟩
      have hk6 : Below w.heap.size w w6 := hk5.trans (ho.below (by omega))
      have hA6 := hA5.only ho (by omega)
      have hB6 := hB5.only ho (by omega)
      have hC6 := hC5.only ho (by omega)
      clear ho hA5 hB5 hC5 hE5 hk5
      have q0 := hA6.cell 0
      have q1 := hA6.cell 1
      have q2 := hA6.cell 2
      have q3 := hA6.cell 3
      go_wp2_with fail
      refine (HJ.out (some a1) c1 _ (HN1.out.grow hk6 (Nat.le_refl _)) hc1 (by omega)).mono ?_
      rintro e w7 ⟨rfl, hb7⟩
      have hk7 : Below w.heap.size w w7 := hk6.trans (hb7.mono hk6.size)
      have hB7 := hB6.grow hb7 hB6.lt
      have hC7 := hC6.grow hb7 hC6.lt
      have r0 := hB7.cell 0
      have r1 := hB7.cell 1
      have r2 := hC7.cell 0
      have r3 := hC7.cell 1
      clear hb7 q0 q1 q2 q3 hA6 hB6 hC6
      go_wp2_with fail
      refine (HY.out (some a2) c2 _ (HN2.out.grow hk7 (Nat.le_refl _)) hc2 (by omega)).mono ?_
      rintro e w8 ⟨rfl, hb8⟩
      go_wp2_with fail
      go_ret
      exact ⟨rfl, hk7.trans (hb8.mono hk7.size)⟩

set_option maxRecDepth 100000 in
set_option maxHeartbeats 2000000 in
theorem checks_sn (root : ByteArray) (size index : Int) (leaf : ByteArray) (os fs : Int) (a b : ByteArray) (a1 : Addr) (c1 : Nat) (ss : List ByteArray) (w : World) (hz1 : root.size ≤ maxLen) (hz2 : leaf.size ≤ maxLen) (hz3 : a.size ≤ maxLen) (hz4 : b.size ≤ maxLen) (hr1 : Row w (some a1) ss) (hc1 : ss.length ≤ c1) (hm1 : c1 * 16 ≤ 140737488351232) :
    Calls Try.prog 28 #[.string root, .agg #[.int .i64 size, .int .i64 index, .string leaf, .slice (some a1) ss.length c1], .agg #[.int .i64 os, .string a], .agg #[.int .i64 fs, .string b], .slice none 0 0] w fun e w' => e = .returned (.bool true) ∧ Below w.heap.size w w' := by
  have hk0 : Below w.heap.size w (((w.alloc (.cells #[.int .i64 size, .int .i64 index, .string leaf, .slice (some a1) ss.length c1] 36)).alloc (.cells #[.int .i64 os, .string a] 38)).alloc (.cells #[.int .i64 fs, .string b] 38)) := (((Below.refl _ _).alloc (Nat.le_refl _) _).alloc (by simp) _).alloc (by simp; omega) _
  have hA0 : Box (((w.alloc (.cells #[.int .i64 size, .int .i64 index, .string leaf, .slice (some a1) ss.length c1] 36)).alloc (.cells #[.int .i64 os, .string a] 38)).alloc (.cells #[.int .i64 fs, .string b] 38)) w.heap.size 36 [.int .i64 size, .int .i64 index, .string leaf, .slice (some a1) ss.length c1] := ((Box.new w 36 [.int .i64 size, .int .i64 index, .string leaf, .slice (some a1) ss.length c1]).alloc _).alloc _
  have hB0 : Box (((w.alloc (.cells #[.int .i64 size, .int .i64 index, .string leaf, .slice (some a1) ss.length c1] 36)).alloc (.cells #[.int .i64 os, .string a] 38)).alloc (.cells #[.int .i64 fs, .string b] 38)) (w.heap.size + 1) 38 [.int .i64 os, .string a] := by
    have := (Box.new (w.alloc (.cells #[.int .i64 size, .int .i64 index, .string leaf, .slice (some a1) ss.length c1] 36)) 38 [.int .i64 os, .string a]).alloc (.cells #[.int .i64 fs, .string b] 38)
    rwa [show (w.alloc (.cells #[.int .i64 size, .int .i64 index, .string leaf, .slice (some a1) ss.length c1] 36)).heap.size = w.heap.size + 1 by simp] at this
  have hC0 : Box (((w.alloc (.cells #[.int .i64 size, .int .i64 index, .string leaf, .slice (some a1) ss.length c1] 36)).alloc (.cells #[.int .i64 os, .string a] 38)).alloc (.cells #[.int .i64 fs, .string b] 38)) (w.heap.size + 2) 38 [.int .i64 fs, .string b] := by
    have := Box.new ((w.alloc (.cells #[.int .i64 size, .int .i64 index, .string leaf, .slice (some a1) ss.length c1] 36)).alloc (.cells #[.int .i64 os, .string a] 38)) 38 [.int .i64 fs, .string b]
    rwa [show ((w.alloc (.cells #[.int .i64 size, .int .i64 index, .string leaf, .slice (some a1) ss.length c1] 36)).alloc (.cells #[.int .i64 os, .string a] 38)).heap.size = w.heap.size + 2 by simp] at this
  have hl1 : 16 * (ss.length + 8) ≤ 281474976710656 := by omega
  have HL1 : Hid (ss.length ≤ maxLen ∧ ∀ s ∈ ss, s.size ≤ maxLen) := ⟨hr1.len, hr1.size⟩
  have HR1 : Hid _ := hr1.grow hk0 (Nat.le_refl _)
  have HN1 : Hid _ := hr1
  have u1 : (0 : Int) ≤ (ss.length : Int) := by omega
  have u2 : (ss.length : Int) ≤ ((ss.length + 8 : Nat) : Int) := by omega
  have u3 : (ss.length : Int) ≤ (ss.length : Int) + 8 := by omega
  have HI : Hid (∀ p cap w, Row w p ss → Calls Try.prog 26 #[.string root, .agg #[.int .i64 size, .int .i64 index, .string leaf, .slice p ss.length cap]] w fun e w' => e = .returned (.int .i64 (inclA root size index leaf ss)) ∧ Below w.heap.size w w') := fun p cap w h => tincl_any root size index leaf p cap ss w hz1 hz2 h
  have HX : Hid (∀ p cap w, Row w p ([] : List ByteArray) → ([] : List ByteArray).length ≤ cap → Calls Try.prog 27 #[.agg #[.int .i64 os, .string a], .agg #[.int .i64 fs, .string b], .slice p ([] : List ByteArray).length cap] w fun e w' => e = .returned (.int .i64 (extA os a fs b [])) ∧ Below w.heap.size w w') := fun p cap w h hc => text_any os fs a b p cap [] w hz3 hz4 h hc
  have HJ : Hid (∀ p cap w, Row w p ss → ss.length ≤ cap → cap ≤ 9223372036854775807 → Calls Try.prog 61 #[.string root, .agg #[.int .i64 size, .int .i64 index, .string leaf, .slice p ss.length cap]] w fun e w' => e = .returned (.int .i64 (inclA root size index leaf ss)) ∧ Below w.heap.size w w') := fun p cap w h hc hm => by
    have := rincluded_any root size index leaf p cap ss w hz1 h hc hm
    rwa [inclE_eq] at this
  have HY : Hid (∀ p cap w, Row w p ([] : List ByteArray) → ([] : List ByteArray).length ≤ cap → cap ≤ 9223372036854775807 → Calls Try.prog 62 #[.agg #[.int .i64 os, .string a], .agg #[.int .i64 fs, .string b], .slice p ([] : List ByteArray).length cap] w fun e w' => e = .returned (.int .i64 (extA os a fs b [])) ∧ Below w.heap.size w w') := fun p cap w h hc hm => by
    have := rextended_any os fs a b p cap [] w hz3 hz4 h hc hm
    rwa [extE_eq] at this
  generalize inclA root size index leaf ss = X at *
  generalize extA os a fs b [] = Y at *
  clear hr1
  go_enter Try.func28, Try.ntmps28
  go_wp2_with fail
  have hs0 : w.heap.size + 3 ≤ (((w.alloc (.cells #[.int .i64 size, .int .i64 index, .string leaf, .slice (some a1) ss.length c1] 36)).alloc (.cells #[.int .i64 os, .string a] 38)).alloc (.cells #[.int .i64 fs, .string b] 38)).heap.size := by simp
  generalize (((w.alloc (.cells #[.int .i64 size, .int .i64 index, .string leaf, .slice (some a1) ss.length c1] 36)).alloc (.cells #[.int .i64 os, .string a] 38)).alloc (.cells #[.int .i64 fs, .string b] 38)) = W0 at *
  refine (handed_some a1 c1 ss W0 HR1.out hl1).mono ?_
  rintro e w1 ⟨rfl, rfl⟩
  have hk1 := hk0.alloc (by omega) (.cells (rowOf ss 8).toArray 9)
  have hA1 := hA0.alloc (.cells (rowOf ss 8).toArray 9)
  have hB1 := hB0.alloc (.cells (rowOf ss 8).toArray 9)
  have hC1 := hC0.alloc (.cells (rowOf ss 8).toArray 9)
  have hD1 := Box.new W0 9 (rowOf ss 8)
  clear hk0 hA0 hB0 hC0
  generalize W0.alloc (.cells (rowOf ss 8).toArray 9) = W1 at *
  have q0 := hA1.cell 0
  have q1 := hA1.cell 1
  have q2 := hA1.cell 2
  have q3 := hA1.cell 3
  go_wp2_with fail
  have hx1 := hA1.drew
  have q0 := hx1.cell 0
  have q1 := hx1.cell 1
  have q2 := hx1.cell 2
  have q3 := hx1.cell 3
  go_region_held3 (fun w' => w'.cell? ⟨w.heap.size, 0, none⟩ = some (.int .i64 size) ∧ w'.cell? ⟨w.heap.size, 1, none⟩ = some (.int .i64 index) ∧ w'.cell? ⟨w.heap.size, 2, none⟩ = some (.string leaf) ∧ w'.cell? ⟨w.heap.size, 3, none⟩ = some (.slice (some a1) ss.length c1)) (go_keep) (first
    | (go_at_call 26; refine (HI.out (some ⟨W0.heap.size, 0, none⟩) (ss.length + 8) _ (Row.drew (rowOf_row W1 W0.heap.size ss HL1.out.1 HL1.out.2 hD1))).mono ?_; rintro e w2 ⟨rfl, hb2⟩; obtain ⟨z0, z1, z2, z3, _⟩ := Hp.keep4 hb2 hx1.lt q0 q1 q2 q3))
  all_goals
    have hl1' := hA1.lt
    have hk2 : Below w.heap.size w w2 := hk1.drew.trans (hb2.mono (by simp; omega))
    have hA2 := hA1.drew.grow hb2 hA1.lt
    have hB2 := hB1.drew.grow hb2 hB1.lt
    have hC2 := hC1.drew.grow hb2 hC1.lt
    have hD2 := hD1.drew.grow hb2 hD1.lt
    clear hb2 hA1 hB1 hC1 q0 q1 q2 q3 hx1 z0 z1 z2 z3
    have q3 := hA2.cell 3
    go_wp2_with fail
    refine (still_some W0.heap.size (some a1) c1 ss w2 (HN1.out.grow hk2 (Nat.le_refl _)) (HN1.out.ne (by omega)) hD2 hl1).mono ?_
    rintro e w3 ⟨rfl, ho⟩
    have hk3 : Below w.heap.size w w3 := hk2.trans (ho.below (by omega))
    have hA3 := hA2.only ho (by omega)
    have hB3 := hB2.only ho (by omega)
    have hC3 := hC2.only ho (by omega)
    clear ho hA2 hB2 hC2 hD2 q3
    go_wp2_with fail
    refine (handed_nil _).mono ?_
    rintro e w4 ⟨rfl, rfl⟩
    have hk4 := hk3
    have hA4 := hA3
    have hB4 := hB3
    have hC4 := hC3
    clear hk3 hA3 hB3 hC3
    have r0 := hB4.cell 0
    have r1 := hB4.cell 1
    have r2 := hC4.cell 0
    have r3 := hC4.cell 1
    go_wp2_with fail
    have hxB := hB4.drew
    have hxC := hC4.drew
    have r0 := hxB.cell 0
    have r1 := hxB.cell 1
    have r2 := hxC.cell 0
    have r3 := hxC.cell 1
    go_region_held3 (fun w' => w'.cell? ⟨w.heap.size + 1, 0, none⟩ = some (.int .i64 os) ∧ w'.cell? ⟨w.heap.size + 1, 1, none⟩ = some (.string a) ∧ w'.cell? ⟨w.heap.size + 2, 0, none⟩ = some (.int .i64 fs) ∧ w'.cell? ⟨w.heap.size + 2, 1, none⟩ = some (.string b)) (go_keep) (first
      | (go_at_call 27; refine (HX.out none 0 _ (row_nil _) (by simp)).mono ?_; rintro e w5 ⟨rfl, hb5⟩; obtain ⟨z4, z5, _⟩ := Hp.keep2 hb5 hxB.lt r0 r1; obtain ⟨z6, z7, _⟩ := Hp.keep2 hb5 hxC.lt r2 r3))
    all_goals
      have hl4 := hA4.lt
      have hk5 : Below w.heap.size w w5 := hk4.drew.trans (hb5.mono (by simp; omega))
      have hA5 := hA4.drew.grow hb5 hA4.lt
      have hB5 := hB4.drew.grow hb5 hB4.lt
      have hC5 := hC4.drew.grow hb5 hC4.lt
      clear hb5 hA4 hB4 hC4 r0 r1 r2 r3 hxB hxC z4 z5 z6 z7
      go_wp2_with fail
      refine (still_nil _).mono ?_
      rintro e w6 ⟨rfl, rfl⟩
      have hk6 := hk5
      have hA6 := hA5
      have hB6 := hB5
      have hC6 := hC5
      clear hA5 hB5 hC5 hk5
      have q0 := hA6.cell 0
      have q1 := hA6.cell 1
      have q2 := hA6.cell 2
      have q3 := hA6.cell 3
      go_wp2_with fail
      refine (HJ.out (some a1) c1 _ (HN1.out.grow hk6 (Nat.le_refl _)) hc1 (by omega)).mono ?_
      rintro e w7 ⟨rfl, hb7⟩
      have hk7 : Below w.heap.size w w7 := hk6.trans (hb7.mono hk6.size)
      have hB7 := hB6.grow hb7 hB6.lt
      have hC7 := hC6.grow hb7 hC6.lt
      have r0 := hB7.cell 0
      have r1 := hB7.cell 1
      have r2 := hC7.cell 0
      have r3 := hC7.cell 1
      clear hb7 q0 q1 q2 q3 hA6 hB6 hC6
      go_wp2_with fail
      refine (HY.out none 0 _ (row_nil _) (by simp) (by omega)).mono ?_
      rintro e w8 ⟨rfl, hb8⟩
      go_wp2_with fail
      go_ret
      exact ⟨rfl, hk7.trans (hb8.mono hk7.size)⟩

set_option maxRecDepth 100000 in
set_option maxHeartbeats 2000000 in
theorem checks_ns (root : ByteArray) (size index : Int) (leaf : ByteArray) (os fs : Int) (a b : ByteArray) (a2 : Addr) (c2 : Nat) (qq : List ByteArray) (w : World) (hz1 : root.size ≤ maxLen) (hz2 : leaf.size ≤ maxLen) (hz3 : a.size ≤ maxLen) (hz4 : b.size ≤ maxLen) (hr2 : Row w (some a2) qq) (hc2 : qq.length ≤ c2) (hm2 : c2 * 16 ≤ 140737488351232) :
    Calls Try.prog 28 #[.string root, .agg #[.int .i64 size, .int .i64 index, .string leaf, .slice none 0 0], .agg #[.int .i64 os, .string a], .agg #[.int .i64 fs, .string b], .slice (some a2) qq.length c2] w fun e w' => e = .returned (.bool true) ∧ Below w.heap.size w w' := by
  have hk0 : Below w.heap.size w (((w.alloc (.cells #[.int .i64 size, .int .i64 index, .string leaf, .slice none 0 0] 36)).alloc (.cells #[.int .i64 os, .string a] 38)).alloc (.cells #[.int .i64 fs, .string b] 38)) := (((Below.refl _ _).alloc (Nat.le_refl _) _).alloc (by simp) _).alloc (by simp; omega) _
  have hA0 : Box (((w.alloc (.cells #[.int .i64 size, .int .i64 index, .string leaf, .slice none 0 0] 36)).alloc (.cells #[.int .i64 os, .string a] 38)).alloc (.cells #[.int .i64 fs, .string b] 38)) w.heap.size 36 [.int .i64 size, .int .i64 index, .string leaf, .slice none 0 0] := ((Box.new w 36 [.int .i64 size, .int .i64 index, .string leaf, .slice none 0 0]).alloc _).alloc _
  have hB0 : Box (((w.alloc (.cells #[.int .i64 size, .int .i64 index, .string leaf, .slice none 0 0] 36)).alloc (.cells #[.int .i64 os, .string a] 38)).alloc (.cells #[.int .i64 fs, .string b] 38)) (w.heap.size + 1) 38 [.int .i64 os, .string a] := by
    have := (Box.new (w.alloc (.cells #[.int .i64 size, .int .i64 index, .string leaf, .slice none 0 0] 36)) 38 [.int .i64 os, .string a]).alloc (.cells #[.int .i64 fs, .string b] 38)
    rwa [show (w.alloc (.cells #[.int .i64 size, .int .i64 index, .string leaf, .slice none 0 0] 36)).heap.size = w.heap.size + 1 by simp] at this
  have hC0 : Box (((w.alloc (.cells #[.int .i64 size, .int .i64 index, .string leaf, .slice none 0 0] 36)).alloc (.cells #[.int .i64 os, .string a] 38)).alloc (.cells #[.int .i64 fs, .string b] 38)) (w.heap.size + 2) 38 [.int .i64 fs, .string b] := by
    have := Box.new ((w.alloc (.cells #[.int .i64 size, .int .i64 index, .string leaf, .slice none 0 0] 36)).alloc (.cells #[.int .i64 os, .string a] 38)) 38 [.int .i64 fs, .string b]
    rwa [show ((w.alloc (.cells #[.int .i64 size, .int .i64 index, .string leaf, .slice none 0 0] 36)).alloc (.cells #[.int .i64 os, .string a] 38)).heap.size = w.heap.size + 2 by simp] at this
  have hl2 : 16 * (qq.length + 8) ≤ 281474976710656 := by omega
  have HL2 : Hid (qq.length ≤ maxLen ∧ ∀ s ∈ qq, s.size ≤ maxLen) := ⟨hr2.len, hr2.size⟩
  have HR2 : Hid _ := hr2.grow hk0 (Nat.le_refl _)
  have HN2 : Hid _ := hr2
  have v1 : (0 : Int) ≤ (qq.length : Int) := by omega
  have v2 : (qq.length : Int) ≤ ((qq.length + 8 : Nat) : Int) := by omega
  have v3 : (qq.length : Int) ≤ (qq.length : Int) + 8 := by omega
  have HI : Hid (∀ p cap w, Row w p ([] : List ByteArray) → Calls Try.prog 26 #[.string root, .agg #[.int .i64 size, .int .i64 index, .string leaf, .slice p ([] : List ByteArray).length cap]] w fun e w' => e = .returned (.int .i64 (inclA root size index leaf [])) ∧ Below w.heap.size w w') := fun p cap w h => tincl_any root size index leaf p cap [] w hz1 hz2 h
  have HX : Hid (∀ p cap w, Row w p qq → qq.length ≤ cap → Calls Try.prog 27 #[.agg #[.int .i64 os, .string a], .agg #[.int .i64 fs, .string b], .slice p qq.length cap] w fun e w' => e = .returned (.int .i64 (extA os a fs b qq)) ∧ Below w.heap.size w w') := fun p cap w h hc => text_any os fs a b p cap qq w hz3 hz4 h hc
  have HJ : Hid (∀ p cap w, Row w p ([] : List ByteArray) → ([] : List ByteArray).length ≤ cap → cap ≤ 9223372036854775807 → Calls Try.prog 61 #[.string root, .agg #[.int .i64 size, .int .i64 index, .string leaf, .slice p ([] : List ByteArray).length cap]] w fun e w' => e = .returned (.int .i64 (inclA root size index leaf [])) ∧ Below w.heap.size w w') := fun p cap w h hc hm => by
    have := rincluded_any root size index leaf p cap [] w hz1 h hc hm
    rwa [inclE_eq] at this
  have HY : Hid (∀ p cap w, Row w p qq → qq.length ≤ cap → cap ≤ 9223372036854775807 → Calls Try.prog 62 #[.agg #[.int .i64 os, .string a], .agg #[.int .i64 fs, .string b], .slice p qq.length cap] w fun e w' => e = .returned (.int .i64 (extA os a fs b qq)) ∧ Below w.heap.size w w') := fun p cap w h hc hm => by
    have := rextended_any os fs a b p cap qq w hz3 hz4 h hc hm
    rwa [extE_eq] at this
  generalize inclA root size index leaf [] = X at *
  generalize extA os a fs b qq = Y at *
  clear hr2
  go_enter Try.func28, Try.ntmps28
  go_wp2_with fail
  have hs0 : w.heap.size + 3 ≤ (((w.alloc (.cells #[.int .i64 size, .int .i64 index, .string leaf, .slice none 0 0] 36)).alloc (.cells #[.int .i64 os, .string a] 38)).alloc (.cells #[.int .i64 fs, .string b] 38)).heap.size := by simp
  generalize (((w.alloc (.cells #[.int .i64 size, .int .i64 index, .string leaf, .slice none 0 0] 36)).alloc (.cells #[.int .i64 os, .string a] 38)).alloc (.cells #[.int .i64 fs, .string b] 38)) = W0 at *
  refine (handed_nil W0).mono ?_
  rintro e w1 ⟨rfl, rfl⟩
  have hk1 := hk0
  have hA1 := hA0
  have hB1 := hB0
  have hC1 := hC0
  clear hk0 hA0 hB0 hC0
  have q0 := hA1.cell 0
  have q1 := hA1.cell 1
  have q2 := hA1.cell 2
  have q3 := hA1.cell 3
  go_wp2_with fail
  have hx1 := hA1.drew
  have q0 := hx1.cell 0
  have q1 := hx1.cell 1
  have q2 := hx1.cell 2
  have q3 := hx1.cell 3
  go_region_held3 (fun w' => w'.cell? ⟨w.heap.size, 0, none⟩ = some (.int .i64 size) ∧ w'.cell? ⟨w.heap.size, 1, none⟩ = some (.int .i64 index) ∧ w'.cell? ⟨w.heap.size, 2, none⟩ = some (.string leaf) ∧ w'.cell? ⟨w.heap.size, 3, none⟩ = some (.slice none 0 0)) (go_keep) (first
    | (go_at_call 26; refine (HI.out none 0 _ (row_nil _)).mono ?_; rintro e w2 ⟨rfl, hb2⟩; obtain ⟨z0, z1, z2, z3, _⟩ := Hp.keep4 hb2 hx1.lt q0 q1 q2 q3))
  all_goals
    have hl1' := hA1.lt
    have hk2 : Below w.heap.size w w2 := hk1.drew.trans (hb2.mono (by simp; omega))
    have hA2 := hA1.drew.grow hb2 hA1.lt
    have hB2 := hB1.drew.grow hb2 hB1.lt
    have hC2 := hC1.drew.grow hb2 hC1.lt
    clear hb2 hA1 hB1 hC1 q0 q1 q2 q3 hx1 z0 z1 z2 z3
    have q3 := hA2.cell 3
    go_wp2_with fail
    refine (still_nil _).mono ?_
    rintro e w3 ⟨rfl, rfl⟩
    have hk3 := hk2
    have hA3 := hA2
    have hB3 := hB2
    have hC3 := hC2
    clear hA2 hB2 hC2 q3
    go_wp2_with fail
    refine (handed_some a2 c2 qq w3 (HN2.out.grow hk3 (Nat.le_refl _)) hl2).mono ?_
    rintro e w4 ⟨rfl, rfl⟩
    have hl3 := hA3.lt
    have hk4 := hk3.alloc (by omega) (.cells (rowOf qq 8).toArray 9)
    have hA4 := hA3.alloc (.cells (rowOf qq 8).toArray 9)
    have hB4 := hB3.alloc (.cells (rowOf qq 8).toArray 9)
    have hC4 := hC3.alloc (.cells (rowOf qq 8).toArray 9)
    have hE4 := Box.new w3 9 (rowOf qq 8)
    have hlC := hC3.lt
    clear hk3 hA3 hB3 hC3
    generalize w3.alloc (.cells (rowOf qq 8).toArray 9) = W4 at *
    have r0 := hB4.cell 0
    have r1 := hB4.cell 1
    have r2 := hC4.cell 0
    have r3 := hC4.cell 1
    go_wp2_with fail
    have hxB := hB4.drew
    have hxC := hC4.drew
    have r0 := hxB.cell 0
    have r1 := hxB.cell 1
    have r2 := hxC.cell 0
    have r3 := hxC.cell 1
    go_region_held3 (fun w' => w'.cell? ⟨w.heap.size + 1, 0, none⟩ = some (.int .i64 os) ∧ w'.cell? ⟨w.heap.size + 1, 1, none⟩ = some (.string a) ∧ w'.cell? ⟨w.heap.size + 2, 0, none⟩ = some (.int .i64 fs) ∧ w'.cell? ⟨w.heap.size + 2, 1, none⟩ = some (.string b)) (go_keep) (first
      | (go_at_call 27; refine (HX.out (some ⟨w3.heap.size, 0, none⟩) (qq.length + 8) _ (Row.drew (rowOf_row W4 w3.heap.size qq HL2.out.1 HL2.out.2 hE4)) (by simp)).mono ?_; rintro e w5 ⟨rfl, hb5⟩; obtain ⟨z4, z5, _⟩ := Hp.keep2 hb5 hxB.lt r0 r1; obtain ⟨z6, z7, _⟩ := Hp.keep2 hb5 hxC.lt r2 r3))
    all_goals
      have hl4 := hA4.lt
      have hk5 : Below w.heap.size w w5 := hk4.drew.trans (hb5.mono (by simp; omega))
      have hA5 := hA4.drew.grow hb5 hA4.lt
      have hB5 := hB4.drew.grow hb5 hB4.lt
      have hC5 := hC4.drew.grow hb5 hC4.lt
      have hE5 := hE4.drew.grow hb5 hE4.lt
      clear hb5 hA4 hB4 hC4 r0 r1 r2 r3 hxB hxC z4 z5 z6 z7
      go_wp2_with fail
      refine (still_some w3.heap.size (some a2) c2 qq w5 (HN2.out.grow hk5 (Nat.le_refl _)) (HN2.out.ne (by omega)) hE5 hl2).mono ?_
      rintro e w6 ⟨rfl, ho⟩
      have hk6 : Below w.heap.size w w6 := hk5.trans (ho.below (by omega))
      have hA6 := hA5.only ho (by omega)
      have hB6 := hB5.only ho (by omega)
      have hC6 := hC5.only ho (by omega)
      clear ho hA5 hB5 hC5 hE5 hk5
      have q0 := hA6.cell 0
      have q1 := hA6.cell 1
      have q2 := hA6.cell 2
      have q3 := hA6.cell 3
      go_wp2_with fail
      refine (HJ.out none 0 _ (row_nil _) (by simp) (by omega)).mono ?_
      rintro e w7 ⟨rfl, hb7⟩
      have hk7 : Below w.heap.size w w7 := hk6.trans (hb7.mono hk6.size)
      have hB7 := hB6.grow hb7 hB6.lt
      have hC7 := hC6.grow hb7 hC6.lt
      have r0 := hB7.cell 0
      have r1 := hB7.cell 1
      have r2 := hC7.cell 0
      have r3 := hC7.cell 1
      clear hb7 q0 q1 q2 q3 hA6 hB6 hC6
      go_wp2_with fail
      refine (HY.out (some a2) c2 _ (HN2.out.grow hk7 (Nat.le_refl _)) hc2 (by omega)).mono ?_
      rintro e w8 ⟨rfl, hb8⟩
      go_wp2_with fail
      go_ret
      exact ⟨rfl, hk7.trans (hb8.mono hk7.size)⟩

set_option maxRecDepth 100000 in
set_option maxHeartbeats 2000000 in
theorem checks_nn (root : ByteArray) (size index : Int) (leaf : ByteArray) (os fs : Int) (a b : ByteArray) (w : World) (hz1 : root.size ≤ maxLen) (hz2 : leaf.size ≤ maxLen) (hz3 : a.size ≤ maxLen) (hz4 : b.size ≤ maxLen) :
    Calls Try.prog 28 #[.string root, .agg #[.int .i64 size, .int .i64 index, .string leaf, .slice none 0 0], .agg #[.int .i64 os, .string a], .agg #[.int .i64 fs, .string b], .slice none 0 0] w fun e w' => e = .returned (.bool true) ∧ Below w.heap.size w w' := by
  have hk0 : Below w.heap.size w (((w.alloc (.cells #[.int .i64 size, .int .i64 index, .string leaf, .slice none 0 0] 36)).alloc (.cells #[.int .i64 os, .string a] 38)).alloc (.cells #[.int .i64 fs, .string b] 38)) := (((Below.refl _ _).alloc (Nat.le_refl _) _).alloc (by simp) _).alloc (by simp; omega) _
  have hA0 : Box (((w.alloc (.cells #[.int .i64 size, .int .i64 index, .string leaf, .slice none 0 0] 36)).alloc (.cells #[.int .i64 os, .string a] 38)).alloc (.cells #[.int .i64 fs, .string b] 38)) w.heap.size 36 [.int .i64 size, .int .i64 index, .string leaf, .slice none 0 0] := ((Box.new w 36 [.int .i64 size, .int .i64 index, .string leaf, .slice none 0 0]).alloc _).alloc _
  have hB0 : Box (((w.alloc (.cells #[.int .i64 size, .int .i64 index, .string leaf, .slice none 0 0] 36)).alloc (.cells #[.int .i64 os, .string a] 38)).alloc (.cells #[.int .i64 fs, .string b] 38)) (w.heap.size + 1) 38 [.int .i64 os, .string a] := by
    have := (Box.new (w.alloc (.cells #[.int .i64 size, .int .i64 index, .string leaf, .slice none 0 0] 36)) 38 [.int .i64 os, .string a]).alloc (.cells #[.int .i64 fs, .string b] 38)
    rwa [show (w.alloc (.cells #[.int .i64 size, .int .i64 index, .string leaf, .slice none 0 0] 36)).heap.size = w.heap.size + 1 by simp] at this
  have hC0 : Box (((w.alloc (.cells #[.int .i64 size, .int .i64 index, .string leaf, .slice none 0 0] 36)).alloc (.cells #[.int .i64 os, .string a] 38)).alloc (.cells #[.int .i64 fs, .string b] 38)) (w.heap.size + 2) 38 [.int .i64 fs, .string b] := by
    have := Box.new ((w.alloc (.cells #[.int .i64 size, .int .i64 index, .string leaf, .slice none 0 0] 36)).alloc (.cells #[.int .i64 os, .string a] 38)) 38 [.int .i64 fs, .string b]
    rwa [show ((w.alloc (.cells #[.int .i64 size, .int .i64 index, .string leaf, .slice none 0 0] 36)).alloc (.cells #[.int .i64 os, .string a] 38)).heap.size = w.heap.size + 2 by simp] at this
  have HI : Hid (∀ p cap w, Row w p ([] : List ByteArray) → Calls Try.prog 26 #[.string root, .agg #[.int .i64 size, .int .i64 index, .string leaf, .slice p ([] : List ByteArray).length cap]] w fun e w' => e = .returned (.int .i64 (inclA root size index leaf [])) ∧ Below w.heap.size w w') := fun p cap w h => tincl_any root size index leaf p cap [] w hz1 hz2 h
  have HX : Hid (∀ p cap w, Row w p ([] : List ByteArray) → ([] : List ByteArray).length ≤ cap → Calls Try.prog 27 #[.agg #[.int .i64 os, .string a], .agg #[.int .i64 fs, .string b], .slice p ([] : List ByteArray).length cap] w fun e w' => e = .returned (.int .i64 (extA os a fs b [])) ∧ Below w.heap.size w w') := fun p cap w h hc => text_any os fs a b p cap [] w hz3 hz4 h hc
  have HJ : Hid (∀ p cap w, Row w p ([] : List ByteArray) → ([] : List ByteArray).length ≤ cap → cap ≤ 9223372036854775807 → Calls Try.prog 61 #[.string root, .agg #[.int .i64 size, .int .i64 index, .string leaf, .slice p ([] : List ByteArray).length cap]] w fun e w' => e = .returned (.int .i64 (inclA root size index leaf [])) ∧ Below w.heap.size w w') := fun p cap w h hc hm => by
    have := rincluded_any root size index leaf p cap [] w hz1 h hc hm
    rwa [inclE_eq] at this
  have HY : Hid (∀ p cap w, Row w p ([] : List ByteArray) → ([] : List ByteArray).length ≤ cap → cap ≤ 9223372036854775807 → Calls Try.prog 62 #[.agg #[.int .i64 os, .string a], .agg #[.int .i64 fs, .string b], .slice p ([] : List ByteArray).length cap] w fun e w' => e = .returned (.int .i64 (extA os a fs b [])) ∧ Below w.heap.size w w') := fun p cap w h hc hm => by
    have := rextended_any os fs a b p cap [] w hz3 hz4 h hc hm
    rwa [extE_eq] at this
  generalize inclA root size index leaf [] = X at *
  generalize extA os a fs b [] = Y at *
  go_enter Try.func28, Try.ntmps28
  go_wp2_with fail
  have hs0 : w.heap.size + 3 ≤ (((w.alloc (.cells #[.int .i64 size, .int .i64 index, .string leaf, .slice none 0 0] 36)).alloc (.cells #[.int .i64 os, .string a] 38)).alloc (.cells #[.int .i64 fs, .string b] 38)).heap.size := by simp
  generalize (((w.alloc (.cells #[.int .i64 size, .int .i64 index, .string leaf, .slice none 0 0] 36)).alloc (.cells #[.int .i64 os, .string a] 38)).alloc (.cells #[.int .i64 fs, .string b] 38)) = W0 at *
  refine (handed_nil W0).mono ?_
  rintro e w1 ⟨rfl, rfl⟩
  have hk1 := hk0
  have hA1 := hA0
  have hB1 := hB0
  have hC1 := hC0
  clear hk0 hA0 hB0 hC0
  have q0 := hA1.cell 0
  have q1 := hA1.cell 1
  have q2 := hA1.cell 2
  have q3 := hA1.cell 3
  go_wp2_with fail
  have hx1 := hA1.drew
  have q0 := hx1.cell 0
  have q1 := hx1.cell 1
  have q2 := hx1.cell 2
  have q3 := hx1.cell 3
  go_region_held3 (fun w' => w'.cell? ⟨w.heap.size, 0, none⟩ = some (.int .i64 size) ∧ w'.cell? ⟨w.heap.size, 1, none⟩ = some (.int .i64 index) ∧ w'.cell? ⟨w.heap.size, 2, none⟩ = some (.string leaf) ∧ w'.cell? ⟨w.heap.size, 3, none⟩ = some (.slice none 0 0)) (go_keep) (first
    | (go_at_call 26; refine (HI.out none 0 _ (row_nil _)).mono ?_; rintro e w2 ⟨rfl, hb2⟩; obtain ⟨z0, z1, z2, z3, _⟩ := Hp.keep4 hb2 hx1.lt q0 q1 q2 q3))
  all_goals
    have hl1' := hA1.lt
    have hk2 : Below w.heap.size w w2 := hk1.drew.trans (hb2.mono (by simp; omega))
    have hA2 := hA1.drew.grow hb2 hA1.lt
    have hB2 := hB1.drew.grow hb2 hB1.lt
    have hC2 := hC1.drew.grow hb2 hC1.lt
    clear hb2 hA1 hB1 hC1 q0 q1 q2 q3 hx1 z0 z1 z2 z3
    have q3 := hA2.cell 3
    go_wp2_with fail
    refine (still_nil _).mono ?_
    rintro e w3 ⟨rfl, rfl⟩
    have hk3 := hk2
    have hA3 := hA2
    have hB3 := hB2
    have hC3 := hC2
    clear hA2 hB2 hC2 q3
    go_wp2_with fail
    refine (handed_nil _).mono ?_
    rintro e w4 ⟨rfl, rfl⟩
    have hk4 := hk3
    have hA4 := hA3
    have hB4 := hB3
    have hC4 := hC3
    clear hk3 hA3 hB3 hC3
    have r0 := hB4.cell 0
    have r1 := hB4.cell 1
    have r2 := hC4.cell 0
    have r3 := hC4.cell 1
    go_wp2_with fail
    have hxB := hB4.drew
    have hxC := hC4.drew
    have r0 := hxB.cell 0
    have r1 := hxB.cell 1
    have r2 := hxC.cell 0
    have r3 := hxC.cell 1
    go_region_held3 (fun w' => w'.cell? ⟨w.heap.size + 1, 0, none⟩ = some (.int .i64 os) ∧ w'.cell? ⟨w.heap.size + 1, 1, none⟩ = some (.string a) ∧ w'.cell? ⟨w.heap.size + 2, 0, none⟩ = some (.int .i64 fs) ∧ w'.cell? ⟨w.heap.size + 2, 1, none⟩ = some (.string b)) (go_keep) (first
      | (go_at_call 27; refine (HX.out none 0 _ (row_nil _) (by simp)).mono ?_; rintro e w5 ⟨rfl, hb5⟩; obtain ⟨z4, z5, _⟩ := Hp.keep2 hb5 hxB.lt r0 r1; obtain ⟨z6, z7, _⟩ := Hp.keep2 hb5 hxC.lt r2 r3))
    all_goals
      have hl4 := hA4.lt
      have hk5 : Below w.heap.size w w5 := hk4.drew.trans (hb5.mono (by simp; omega))
      have hA5 := hA4.drew.grow hb5 hA4.lt
      have hB5 := hB4.drew.grow hb5 hB4.lt
      have hC5 := hC4.drew.grow hb5 hC4.lt
      clear hb5 hA4 hB4 hC4 r0 r1 r2 r3 hxB hxC z4 z5 z6 z7
      go_wp2_with fail
      refine (still_nil _).mono ?_
      rintro e w6 ⟨rfl, rfl⟩
      have hk6 := hk5
      have hA6 := hA5
      have hB6 := hB5
      have hC6 := hC5
      clear hA5 hB5 hC5 hk5
      have q0 := hA6.cell 0
      have q1 := hA6.cell 1
      have q2 := hA6.cell 2
      have q3 := hA6.cell 3
      go_wp2_with fail
      refine (HJ.out none 0 _ (row_nil _) (by simp) (by omega)).mono ?_
      rintro e w7 ⟨rfl, hb7⟩
      have hk7 : Below w.heap.size w w7 := hk6.trans (hb7.mono hk6.size)
      have hB7 := hB6.grow hb7 hB6.lt
      have hC7 := hC6.grow hb7 hC6.lt
      have r0 := hB7.cell 0
      have r1 := hB7.cell 1
      have r2 := hC7.cell 0
      have r3 := hC7.cell 1
      clear hb7 q0 q1 q2 q3 hA6 hB6 hC6
      go_wp2_with fail
      refine (HY.out none 0 _ (row_nil _) (by simp) (by omega)).mono ?_
      rintro e w8 ⟨rfl, hb8⟩
      go_wp2_with fail
      go_ret
      exact ⟨rfl, hk7.trans (hb8.mono hk7.size)⟩

end Go.Proofs.Ytkhnjipjbhcgdaa
