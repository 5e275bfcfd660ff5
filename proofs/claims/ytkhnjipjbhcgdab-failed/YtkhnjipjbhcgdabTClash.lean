/-
  THE WALK of treehead.Clash.
-/
import Derived.Test.YtkhnjipjbhcgdabTAll
namespace Go.Proofs.Ytkhnjipjbhcgdab
open Go.RowKit Hp

set_option maxRecDepth 100000 in
set_option maxHeartbeats 4000000 in
theorem tclash_arg1 (n1 i1 : Int) (l1 : ByteArray) (p1 : Option Addr) (k1 c1 : Nat) (n2 i2 : Int) (l2 : ByteArray) (p2 : Option Addr) (k2 c2 : Nat) (p3 : Option Addr) (k3 c3 : Nat) (w : World) (hl1 : l1.size ≤ maxLen) (hl2 : l2.size ≤ maxLen) (h1 : Pl.ansB n1 i1 l1 = false) :
    Calls Try.prog 27 #[.agg #[.int .i64 n1, .int .i64 i1, .string l1, .slice p1 k1 c1], .agg #[.int .i64 n2, .int .i64 i2, .string l2, .slice p2 k2 c2], .slice p3 k3 c3] w fun e w' => e = .returned (.tuple #[.string ⟨#[]⟩, .string ⟨#[]⟩, .int .i64 1]) ∧ Below w.heap.size w w' := by
  have hx0 : Box ((w.alloc (.cells #[.int .i64 n1, .int .i64 i1, .string l1, .slice p1 k1 c1] 53)).alloc (.cells #[.int .i64 n2, .int .i64 i2, .string l2, .slice p2 k2 c2] 53)) w.heap.size 53 [.int .i64 n1, .int .i64 i1, .string l1, .slice p1 k1 c1] := (Box.new w 53 [.int .i64 n1, .int .i64 i1, .string l1, .slice p1 k1 c1]).alloc _
  have hy0 : Box ((w.alloc (.cells #[.int .i64 n1, .int .i64 i1, .string l1, .slice p1 k1 c1] 53)).alloc (.cells #[.int .i64 n2, .int .i64 i2, .string l2, .slice p2 k2 c2] 53)) (w.heap.size + 1) 53 [.int .i64 n2, .int .i64 i2, .string l2, .slice p2 k2 c2] := Box.new2 w _ 53 [.int .i64 n2, .int .i64 i2, .string l2, .slice p2 k2 c2]
  have hk0 : Below w.heap.size w ((w.alloc (.cells #[.int .i64 n1, .int .i64 i1, .string l1, .slice p1 k1 c1] 53)).alloc (.cells #[.int .i64 n2, .int .i64 i2, .string l2, .slice p2 k2 c2] 53)) := ((Below.refl _ _).alloc (Nat.le_refl _) _).alloc (by simp) _
  have HA : Hid _ := fun w => tmayans_any n1 i1 l1 (.slice p1 k1 c1) w hl1 ⟨_, _, _, rfl⟩
  have HB : Hid _ := fun w => tmayans_any n2 i2 l2 (.slice p2 k2 c2) w hl2 ⟨_, _, _, rfl⟩
  rw [h1] at HA
  have qc0 := hx0.cell 0
  have qc1 := hx0.cell 1
  have qc2 := hx0.cell 2
  have qc3 := hx0.cell 3
  go_enter Try.func27, Try.ntmps27
  go_wp2_with fail
  refine (HA.out _).mono ?_
  rintro e w1 ⟨rfl, hb1⟩
  have hx1 := hx0.grow hb1 hx0.lt
  have hy1 := hy0.grow hb1 hy0.lt
  have hk1 := hk0.trans (hb1.mono hk0.size)
  clear hb1 qc0 qc1 qc2 qc3 hx0 hy0 hk0 HA
  go_wp2_with fail
  refine bodyPost_ret (v := .tuple #[.string ⟨#[]⟩, .string ⟨#[]⟩, .int .i64 1]) (by simp [results, Try.results27, go_sem]) rfl ⟨rfl, hk1⟩

set_option maxRecDepth 100000 in
set_option maxHeartbeats 4000000 in
theorem tclash_arg2 (n1 i1 : Int) (l1 : ByteArray) (p1 : Option Addr) (k1 c1 : Nat) (n2 i2 : Int) (l2 : ByteArray) (p2 : Option Addr) (k2 c2 : Nat) (p3 : Option Addr) (k3 c3 : Nat) (w : World) (hl1 : l1.size ≤ maxLen) (hl2 : l2.size ≤ maxLen) (h1 : Pl.ansB n1 i1 l1 = true) (h2 : Pl.ansB n2 i2 l2 = false) :
    Calls Try.prog 27 #[.agg #[.int .i64 n1, .int .i64 i1, .string l1, .slice p1 k1 c1], .agg #[.int .i64 n2, .int .i64 i2, .string l2, .slice p2 k2 c2], .slice p3 k3 c3] w fun e w' => e = .returned (.tuple #[.string ⟨#[]⟩, .string ⟨#[]⟩, .int .i64 1]) ∧ Below w.heap.size w w' := by
  have hx0 : Box ((w.alloc (.cells #[.int .i64 n1, .int .i64 i1, .string l1, .slice p1 k1 c1] 53)).alloc (.cells #[.int .i64 n2, .int .i64 i2, .string l2, .slice p2 k2 c2] 53)) w.heap.size 53 [.int .i64 n1, .int .i64 i1, .string l1, .slice p1 k1 c1] := (Box.new w 53 [.int .i64 n1, .int .i64 i1, .string l1, .slice p1 k1 c1]).alloc _
  have hy0 : Box ((w.alloc (.cells #[.int .i64 n1, .int .i64 i1, .string l1, .slice p1 k1 c1] 53)).alloc (.cells #[.int .i64 n2, .int .i64 i2, .string l2, .slice p2 k2 c2] 53)) (w.heap.size + 1) 53 [.int .i64 n2, .int .i64 i2, .string l2, .slice p2 k2 c2] := Box.new2 w _ 53 [.int .i64 n2, .int .i64 i2, .string l2, .slice p2 k2 c2]
  have hk0 : Below w.heap.size w ((w.alloc (.cells #[.int .i64 n1, .int .i64 i1, .string l1, .slice p1 k1 c1] 53)).alloc (.cells #[.int .i64 n2, .int .i64 i2, .string l2, .slice p2 k2 c2] 53)) := ((Below.refl _ _).alloc (Nat.le_refl _) _).alloc (by simp) _
  have HA : Hid _ := fun w => tmayans_any n1 i1 l1 (.slice p1 k1 c1) w hl1 ⟨_, _, _, rfl⟩
  have HB : Hid _ := fun w => tmayans_any n2 i2 l2 (.slice p2 k2 c2) w hl2 ⟨_, _, _, rfl⟩
  rw [h2] at HB
  rw [h1] at HA
  have qc0 := hx0.cell 0
  have qc1 := hx0.cell 1
  have qc2 := hx0.cell 2
  have qc3 := hx0.cell 3
  go_enter Try.func27, Try.ntmps27
  go_wp2_with fail
  refine (HA.out _).mono ?_
  rintro e w1 ⟨rfl, hb1⟩
  have hx1 := hx0.grow hb1 hx0.lt
  have hy1 := hy0.grow hb1 hy0.lt
  have hk1 := hk0.trans (hb1.mono hk0.size)
  clear hb1 qc0 qc1 qc2 qc3 hx0 hy0 hk0 HA
  have qd0 := hy1.cell 0
  have qd1 := hy1.cell 1
  have qd2 := hy1.cell 2
  have qd3 := hy1.cell 3
  go_wp2_with fail
  refine (HB.out _).mono ?_
  rintro e w2 ⟨rfl, hb2⟩
  have hx2 := hx1.grow hb2 hx1.lt
  have hy2 := hy1.grow hb2 hy1.lt
  have hk2 := hk1.trans (hb2.mono hk1.size)
  clear hb2 qd0 qd1 qd2 qd3 hx1 hy1 hk1 HB
  have qc0 := hx2.cell 0
  have qc1 := hx2.cell 1
  have qc2 := hx2.cell 2
  have qc3 := hx2.cell 3
  have qd0 := hy2.cell 0
  have qd1 := hy2.cell 1
  have qd2 := hy2.cell 2
  have qd3 := hy2.cell 3
  go_wp2_with fail
  refine bodyPost_ret (v := .tuple #[.string ⟨#[]⟩, .string ⟨#[]⟩, .int .i64 1]) (by simp [results, Try.results27, go_sem]) rfl ⟨rfl, hk2⟩

set_option maxRecDepth 100000 in
set_option maxHeartbeats 4000000 in
theorem tclash_arg3 (n1 i1 : Int) (l1 : ByteArray) (p1 : Option Addr) (k1 c1 : Nat) (n2 i2 : Int) (l2 : ByteArray) (p2 : Option Addr) (k2 c2 : Nat) (p3 : Option Addr) (k3 c3 : Nat) (w : World) (hl1 : l1.size ≤ maxLen) (hl2 : l2.size ≤ maxLen) (h1 : Pl.ansB n1 i1 l1 = true) (h2 : Pl.ansB n2 i2 l2 = true) (h3 : ¬ i1 = i2) :
    Calls Try.prog 27 #[.agg #[.int .i64 n1, .int .i64 i1, .string l1, .slice p1 k1 c1], .agg #[.int .i64 n2, .int .i64 i2, .string l2, .slice p2 k2 c2], .slice p3 k3 c3] w fun e w' => e = .returned (.tuple #[.string ⟨#[]⟩, .string ⟨#[]⟩, .int .i64 1]) ∧ Below w.heap.size w w' := by
  have hx0 : Box ((w.alloc (.cells #[.int .i64 n1, .int .i64 i1, .string l1, .slice p1 k1 c1] 53)).alloc (.cells #[.int .i64 n2, .int .i64 i2, .string l2, .slice p2 k2 c2] 53)) w.heap.size 53 [.int .i64 n1, .int .i64 i1, .string l1, .slice p1 k1 c1] := (Box.new w 53 [.int .i64 n1, .int .i64 i1, .string l1, .slice p1 k1 c1]).alloc _
  have hy0 : Box ((w.alloc (.cells #[.int .i64 n1, .int .i64 i1, .string l1, .slice p1 k1 c1] 53)).alloc (.cells #[.int .i64 n2, .int .i64 i2, .string l2, .slice p2 k2 c2] 53)) (w.heap.size + 1) 53 [.int .i64 n2, .int .i64 i2, .string l2, .slice p2 k2 c2] := Box.new2 w _ 53 [.int .i64 n2, .int .i64 i2, .string l2, .slice p2 k2 c2]
  have hk0 : Below w.heap.size w ((w.alloc (.cells #[.int .i64 n1, .int .i64 i1, .string l1, .slice p1 k1 c1] 53)).alloc (.cells #[.int .i64 n2, .int .i64 i2, .string l2, .slice p2 k2 c2] 53)) := ((Below.refl _ _).alloc (Nat.le_refl _) _).alloc (by simp) _
  have HA : Hid _ := fun w => tmayans_any n1 i1 l1 (.slice p1 k1 c1) w hl1 ⟨_, _, _, rfl⟩
  have HB : Hid _ := fun w => tmayans_any n2 i2 l2 (.slice p2 k2 c2) w hl2 ⟨_, _, _, rfl⟩
  rw [h2] at HB
  rw [h1] at HA
  have qc0 := hx0.cell 0
  have qc1 := hx0.cell 1
  have qc2 := hx0.cell 2
  have qc3 := hx0.cell 3
  go_enter Try.func27, Try.ntmps27
  go_wp2_with fail
  refine (HA.out _).mono ?_
  rintro e w1 ⟨rfl, hb1⟩
  have hx1 := hx0.grow hb1 hx0.lt
  have hy1 := hy0.grow hb1 hy0.lt
  have hk1 := hk0.trans (hb1.mono hk0.size)
  clear hb1 qc0 qc1 qc2 qc3 hx0 hy0 hk0 HA
  have qd0 := hy1.cell 0
  have qd1 := hy1.cell 1
  have qd2 := hy1.cell 2
  have qd3 := hy1.cell 3
  go_wp2_with fail
  refine (HB.out _).mono ?_
  rintro e w2 ⟨rfl, hb2⟩
  have hx2 := hx1.grow hb2 hx1.lt
  have hy2 := hy1.grow hb2 hy1.lt
  have hk2 := hk1.trans (hb2.mono hk1.size)
  clear hb2 qd0 qd1 qd2 qd3 hx1 hy1 hk1 HB
  have qc0 := hx2.cell 0
  have qc1 := hx2.cell 1
  have qc2 := hx2.cell 2
  have qc3 := hx2.cell 3
  have qd0 := hy2.cell 0
  have qd1 := hy2.cell 1
  have qd2 := hy2.cell 2
  have qd3 := hy2.cell 3
  go_wp2_with fail
  refine bodyPost_ret (v := .tuple #[.string ⟨#[]⟩, .string ⟨#[]⟩, .int .i64 1]) (by simp [results, Try.results27, go_sem]) rfl ⟨rfl, hk2⟩

set_option maxRecDepth 100000 in
set_option maxHeartbeats 4000000 in
theorem tclash_arg4 (n1 i1 : Int) (l1 : ByteArray) (p1 : Option Addr) (k1 c1 : Nat) (n2 i2 : Int) (l2 : ByteArray) (p2 : Option Addr) (k2 c2 : Nat) (p3 : Option Addr) (k3 c3 : Nat) (w : World) (hl1 : l1.size ≤ maxLen) (hl2 : l2.size ≤ maxLen) (h1 : Pl.ansB n1 i1 l1 = true) (h2 : Pl.ansB n2 i2 l2 = true) (h3 : i1 = i2) (h4 : n2 < n1) :
    Calls Try.prog 27 #[.agg #[.int .i64 n1, .int .i64 i1, .string l1, .slice p1 k1 c1], .agg #[.int .i64 n2, .int .i64 i2, .string l2, .slice p2 k2 c2], .slice p3 k3 c3] w fun e w' => e = .returned (.tuple #[.string ⟨#[]⟩, .string ⟨#[]⟩, .int .i64 1]) ∧ Below w.heap.size w w' := by
  have hx0 : Box ((w.alloc (.cells #[.int .i64 n1, .int .i64 i1, .string l1, .slice p1 k1 c1] 53)).alloc (.cells #[.int .i64 n2, .int .i64 i2, .string l2, .slice p2 k2 c2] 53)) w.heap.size 53 [.int .i64 n1, .int .i64 i1, .string l1, .slice p1 k1 c1] := (Box.new w 53 [.int .i64 n1, .int .i64 i1, .string l1, .slice p1 k1 c1]).alloc _
  have hy0 : Box ((w.alloc (.cells #[.int .i64 n1, .int .i64 i1, .string l1, .slice p1 k1 c1] 53)).alloc (.cells #[.int .i64 n2, .int .i64 i2, .string l2, .slice p2 k2 c2] 53)) (w.heap.size + 1) 53 [.int .i64 n2, .int .i64 i2, .string l2, .slice p2 k2 c2] := Box.new2 w _ 53 [.int .i64 n2, .int .i64 i2, .string l2, .slice p2 k2 c2]
  have hk0 : Below w.heap.size w ((w.alloc (.cells #[.int .i64 n1, .int .i64 i1, .string l1, .slice p1 k1 c1] 53)).alloc (.cells #[.int .i64 n2, .int .i64 i2, .string l2, .slice p2 k2 c2] 53)) := ((Below.refl _ _).alloc (Nat.le_refl _) _).alloc (by simp) _
  have HA : Hid _ := fun w => tmayans_any n1 i1 l1 (.slice p1 k1 c1) w hl1 ⟨_, _, _, rfl⟩
  have HB : Hid _ := fun w => tmayans_any n2 i2 l2 (.slice p2 k2 c2) w hl2 ⟨_, _, _, rfl⟩
  rw [h2] at HB
  subst h3
  rw [h1] at HA
  have qc0 := hx0.cell 0
  have qc1 := hx0.cell 1
  have qc2 := hx0.cell 2
  have qc3 := hx0.cell 3
  go_enter Try.func27, Try.ntmps27
  go_wp2_with fail
  refine (HA.out _).mono ?_
  rintro e w1 ⟨rfl, hb1⟩
  have hx1 := hx0.grow hb1 hx0.lt
  have hy1 := hy0.grow hb1 hy0.lt
  have hk1 := hk0.trans (hb1.mono hk0.size)
  clear hb1 qc0 qc1 qc2 qc3 hx0 hy0 hk0 HA
  have qd0 := hy1.cell 0
  have qd1 := hy1.cell 1
  have qd2 := hy1.cell 2
  have qd3 := hy1.cell 3
  go_wp2_with fail
  refine (HB.out _).mono ?_
  rintro e w2 ⟨rfl, hb2⟩
  have hx2 := hx1.grow hb2 hx1.lt
  have hy2 := hy1.grow hb2 hy1.lt
  have hk2 := hk1.trans (hb2.mono hk1.size)
  clear hb2 qd0 qd1 qd2 qd3 hx1 hy1 hk1 HB
  have qc0 := hx2.cell 0
  have qc1 := hx2.cell 1
  have qc2 := hx2.cell 2
  have qc3 := hx2.cell 3
  have qd0 := hy2.cell 0
  have qd1 := hy2.cell 1
  have qd2 := hy2.cell 2
  have qd3 := hy2.cell 3
  go_wp2_with fail
  refine bodyPost_ret (v := .tuple #[.string ⟨#[]⟩, .string ⟨#[]⟩, .int .i64 1]) (by simp [results, Try.results27, go_sem]) rfl ⟨rfl, hk2⟩

set_option maxRecDepth 100000 in
set_option maxHeartbeats 4000000 in
theorem tclash_no (n1 n2 i : Nat) (l1 : ByteArray) (p1 : Option Addr) (q1 : List ByteArray) (c1 : Nat) (l2 : ByteArray) (p2 : Option Addr) (q2 : List ByteArray) (c2 : Nat) (p3 : Option Addr) (q3 : List ByteArray) (c3 : Nat) (w : World) (h1 : Pl.ansB n1 i l1 = true) (h2 : Pl.ansB n2 i l2 = true) (h4 : (n1 : Int) ≤ n2) (hr1 : Row w p1 q1) (hr2 : Row w p2 q2) (hr3 : Row w p3 q3) 
    (HF : Hid (∀ w, Row w p1 q1 → Row w p2 q2 → Row w p3 q3 → Calls Try.prog 49 #[.agg #[.int .i64 n1, .int .i64 i, .string l1, .slice p1 q1.length c1], .agg #[.int .i64 n2, .int .i64 i, .string l2, .slice p2 q2.length c2], .slice p3 q3.length c3] w fun e w' => ∃ u1 u2 u3, e = .returned (.tuple #[.slice u1 u2 u3, .bool false]) ∧ Below w.heap.size w w')) :
    Calls Try.prog 27 #[.agg #[.int .i64 n1, .int .i64 i, .string l1, .slice p1 q1.length c1], .agg #[.int .i64 n2, .int .i64 i, .string l2, .slice p2 q2.length c2], .slice p3 q3.length c3] w fun e w' => e = .returned (.tuple #[.string ⟨#[]⟩, .string ⟨#[]⟩, .int .i64 6]) ∧ Below w.heap.size w w' := by
  have hl1 : l1.size ≤ maxLen := Nat.le_trans (ansB_parts h1).2.2.2.2 (by decide)
  have hl2 : l2.size ≤ maxLen := Nat.le_trans (ansB_parts h2).2.2.2.2 (by decide)
  have hx0 : Box ((w.alloc (.cells #[.int .i64 n1, .int .i64 i, .string l1, .slice p1 q1.length c1] 53)).alloc (.cells #[.int .i64 n2, .int .i64 i, .string l2, .slice p2 q2.length c2] 53)) w.heap.size 53 [.int .i64 n1, .int .i64 i, .string l1, .slice p1 q1.length c1] := (Box.new w 53 [.int .i64 n1, .int .i64 i, .string l1, .slice p1 q1.length c1]).alloc _
  have hy0 : Box ((w.alloc (.cells #[.int .i64 n1, .int .i64 i, .string l1, .slice p1 q1.length c1] 53)).alloc (.cells #[.int .i64 n2, .int .i64 i, .string l2, .slice p2 q2.length c2] 53)) (w.heap.size + 1) 53 [.int .i64 n2, .int .i64 i, .string l2, .slice p2 q2.length c2] := Box.new2 w _ 53 [.int .i64 n2, .int .i64 i, .string l2, .slice p2 q2.length c2]
  have hk0 : Below w.heap.size w ((w.alloc (.cells #[.int .i64 n1, .int .i64 i, .string l1, .slice p1 q1.length c1] 53)).alloc (.cells #[.int .i64 n2, .int .i64 i, .string l2, .slice p2 q2.length c2] 53)) := ((Below.refl _ _).alloc (Nat.le_refl _) _).alloc (by simp) _
  have HA : Hid _ := fun w => tmayans_any n1 i l1 (.slice p1 q1.length c1) w hl1 ⟨_, _, _, rfl⟩
  have HB : Hid _ := fun w => tmayans_any n2 i l2 (.slice p2 q2.length c2) w hl2 ⟨_, _, _, rfl⟩
  rw [h2] at HB
  have HR1 : Hid _ := hr1
  have HR2 : Hid _ := hr2
  have HR3 : Hid _ := hr3
  clear hr1 hr2 hr3 h2 hl1 hl2
  rw [h1] at HA
  have qc0 := hx0.cell 0
  have qc1 := hx0.cell 1
  have qc2 := hx0.cell 2
  have qc3 := hx0.cell 3
  go_enter Try.func27, Try.ntmps27
  go_wp2_with fail
  refine (HA.out _).mono ?_
  rintro e w1 ⟨rfl, hb1⟩
  have hx1 := hx0.grow hb1 hx0.lt
  have hy1 := hy0.grow hb1 hy0.lt
  have hk1 := hk0.trans (hb1.mono hk0.size)
  clear hb1 qc0 qc1 qc2 qc3 hx0 hy0 hk0 HA
  clear h1
  have qd0 := hy1.cell 0
  have qd1 := hy1.cell 1
  have qd2 := hy1.cell 2
  have qd3 := hy1.cell 3
  go_wp2_with fail
  refine (HB.out _).mono ?_
  rintro e w2 ⟨rfl, hb2⟩
  have hx2 := hx1.grow hb2 hx1.lt
  have hy2 := hy1.grow hb2 hy1.lt
  have hk2 := hk1.trans (hb2.mono hk1.size)
  clear hb2 qd0 qd1 qd2 qd3 hx1 hy1 hk1 HB
  have qc0 := hx2.cell 0
  have qc1 := hx2.cell 1
  have qc2 := hx2.cell 2
  have qc3 := hx2.cell 3
  have qd0 := hy2.cell 0
  have qd1 := hy2.cell 1
  have qd2 := hy2.cell 2
  have qd3 := hy2.cell 3
  go_wp2_with fail
  refine (HF.out _ (HR1.out.grow hk2 (Nat.le_refl _)) (HR2.out.grow hk2 (Nat.le_refl _)) (HR3.out.grow hk2 (Nat.le_refl _))).mono ?_
  rintro e w3 ⟨u1, u2, u3, rfl, hb3⟩
  have hk3 := hk2.trans (hb3.mono hk2.size)
  clear hb3 HF HR1 HR2 HR3
  go_wp2_with fail
  refine bodyPost_ret (v := .tuple #[.string ⟨#[]⟩, .string ⟨#[]⟩, .int .i64 6]) (by simp [results, Try.results27, go_sem]) rfl ⟨rfl, hk3⟩

set_option maxRecDepth 100000 in
set_option maxHeartbeats 4000000 in
theorem tclash_same (n1 n2 i : Nat) (l1 : ByteArray) (p1 : Option Addr) (q1 : List ByteArray) (c1 : Nat) (l2 : ByteArray) (p2 : Option Addr) (q2 : List ByteArray) (c2 : Nat) (p3 : Option Addr) (q3 : List ByteArray) (c3 : Nat) (w : World) (h1 : Pl.ansB n1 i l1 = true) (h2 : Pl.ansB n2 i l2 = true) (h4 : (n1 : Int) ≤ n2) (hr1 : Row w p1 q1) (hr2 : Row w p2 q2) (hr3 : Row w p3 q3) (T : List ByteArray) (he : l1 = l2)
    (HF : Hid (∀ w, Row w p1 q1 → Row w p2 q2 → Row w p3 q3 → Calls Try.prog 49 #[.agg #[.int .i64 n1, .int .i64 i, .string l1, .slice p1 q1.length c1], .agg #[.int .i64 n2, .int .i64 i, .string l2, .slice p2 q2.length c2], .slice p3 q3.length c3] w fun e w' => ∃ v, e = .returned (.tuple #[v, .bool true]) ∧ Own w' w.heap.size v T ∧ (∀ s ∈ T, s.size ≤ 64) ∧ Below w.heap.size w w')) :
    Calls Try.prog 27 #[.agg #[.int .i64 n1, .int .i64 i, .string l1, .slice p1 q1.length c1], .agg #[.int .i64 n2, .int .i64 i, .string l2, .slice p2 q2.length c2], .slice p3 q3.length c3] w fun e w' => e = .returned (.tuple #[.string ⟨#[]⟩, .string ⟨#[]⟩, .int .i64 8]) ∧ Below w.heap.size w w' := by
  subst he
  have hl1 : l1.size ≤ maxLen := Nat.le_trans (ansB_parts h1).2.2.2.2 (by decide)
  have hl2 : l1.size ≤ maxLen := Nat.le_trans (ansB_parts h2).2.2.2.2 (by decide)
  have hx0 : Box ((w.alloc (.cells #[.int .i64 n1, .int .i64 i, .string l1, .slice p1 q1.length c1] 53)).alloc (.cells #[.int .i64 n2, .int .i64 i, .string l1, .slice p2 q2.length c2] 53)) w.heap.size 53 [.int .i64 n1, .int .i64 i, .string l1, .slice p1 q1.length c1] := (Box.new w 53 [.int .i64 n1, .int .i64 i, .string l1, .slice p1 q1.length c1]).alloc _
  have hy0 : Box ((w.alloc (.cells #[.int .i64 n1, .int .i64 i, .string l1, .slice p1 q1.length c1] 53)).alloc (.cells #[.int .i64 n2, .int .i64 i, .string l1, .slice p2 q2.length c2] 53)) (w.heap.size + 1) 53 [.int .i64 n2, .int .i64 i, .string l1, .slice p2 q2.length c2] := Box.new2 w _ 53 [.int .i64 n2, .int .i64 i, .string l1, .slice p2 q2.length c2]
  have hk0 : Below w.heap.size w ((w.alloc (.cells #[.int .i64 n1, .int .i64 i, .string l1, .slice p1 q1.length c1] 53)).alloc (.cells #[.int .i64 n2, .int .i64 i, .string l1, .slice p2 q2.length c2] 53)) := ((Below.refl _ _).alloc (Nat.le_refl _) _).alloc (by simp) _
  have HA : Hid _ := fun w => tmayans_any n1 i l1 (.slice p1 q1.length c1) w hl1 ⟨_, _, _, rfl⟩
  have HB : Hid _ := fun w => tmayans_any n2 i l1 (.slice p2 q2.length c2) w hl2 ⟨_, _, _, rfl⟩
  rw [h2] at HB
  have HR1 : Hid _ := hr1
  have HR2 : Hid _ := hr2
  have HR3 : Hid _ := hr3
  clear hr1 hr2 hr3 h2 hl1 hl2
  rw [h1] at HA
  have qc0 := hx0.cell 0
  have qc1 := hx0.cell 1
  have qc2 := hx0.cell 2
  have qc3 := hx0.cell 3
  go_enter Try.func27, Try.ntmps27
  go_wp2_with fail
  refine (HA.out _).mono ?_
  rintro e w1 ⟨rfl, hb1⟩
  have hx1 := hx0.grow hb1 hx0.lt
  have hy1 := hy0.grow hb1 hy0.lt
  have hk1 := hk0.trans (hb1.mono hk0.size)
  clear hb1 qc0 qc1 qc2 qc3 hx0 hy0 hk0 HA
  clear h1
  have qd0 := hy1.cell 0
  have qd1 := hy1.cell 1
  have qd2 := hy1.cell 2
  have qd3 := hy1.cell 3
  go_wp2_with fail
  refine (HB.out _).mono ?_
  rintro e w2 ⟨rfl, hb2⟩
  have hx2 := hx1.grow hb2 hx1.lt
  have hy2 := hy1.grow hb2 hy1.lt
  have hk2 := hk1.trans (hb2.mono hk1.size)
  clear hb2 qd0 qd1 qd2 qd3 hx1 hy1 hk1 HB
  have qc0 := hx2.cell 0
  have qc1 := hx2.cell 1
  have qc2 := hx2.cell 2
  have qc3 := hx2.cell 3
  have qd0 := hy2.cell 0
  have qd1 := hy2.cell 1
  have qd2 := hy2.cell 2
  have qd3 := hy2.cell 3
  go_wp2_with fail
  refine (HF.out _ (HR1.out.grow hk2 (Nat.le_refl _)) (HR2.out.grow hk2 (Nat.le_refl _)) (HR3.out.grow hk2 (Nat.le_refl _))).mono ?_
  rintro e w3 ⟨v3, rfl, ho3, hz3, hb3⟩
  have hk3 := hk2.trans (hb3.mono hk2.size)
  have hx3 := hx2.grow hb3 hx2.lt
  have hy3 := hy2.grow hb3 hy2.lt
  have e2 := hx3.cell 2
  have e6 := hy3.cell 2
  clear hb3 HF HR1 HR2 HR3 hx2 hy2
  obtain ⟨s3, d3, hv3⟩ := own_slice ho3
  subst hv3
  clear ho3 hz3
  go_wp2_with fail
  refine bodyPost_ret (v := .tuple #[.string ⟨#[]⟩, .string ⟨#[]⟩, .int .i64 8]) (by simp [results, Try.results27, go_sem]) rfl ⟨rfl, hk3⟩

set_option maxRecDepth 100000 in
set_option maxHeartbeats 4000000 in
theorem tclash_yes (n1 n2 i : Nat) (l1 : ByteArray) (p1 : Option Addr) (q1 : List ByteArray) (c1 : Nat) (l2 : ByteArray) (p2 : Option Addr) (q2 : List ByteArray) (c2 : Nat) (p3 : Option Addr) (q3 : List ByteArray) (c3 : Nat) (w : World) (h1 : Pl.ansB n1 i l1 = true) (h2 : Pl.ansB n2 i l2 = true) (h4 : (n1 : Int) ≤ n2) (hr1 : Row w p1 q1) (hr2 : Row w p2 q2) (hr3 : Row w p3 q3) (T : List ByteArray) (he : ¬ l1 = l2) (hT : T ≠ []) (hTl : T.length ≤ 4000) (x y : ByteArray) (hxy : Pl.pairOf (Pl.later T) = (x, y))
    (HF : Hid (∀ w, Row w p1 q1 → Row w p2 q2 → Row w p3 q3 → Calls Try.prog 49 #[.agg #[.int .i64 n1, .int .i64 i, .string l1, .slice p1 q1.length c1], .agg #[.int .i64 n2, .int .i64 i, .string l2, .slice p2 q2.length c2], .slice p3 q3.length c3] w fun e w' => ∃ v, e = .returned (.tuple #[v, .bool true]) ∧ Own w' w.heap.size v T ∧ (∀ s ∈ T, s.size ≤ 64) ∧ Below w.heap.size w w')) :
    Calls Try.prog 27 #[.agg #[.int .i64 n1, .int .i64 i, .string l1, .slice p1 q1.length c1], .agg #[.int .i64 n2, .int .i64 i, .string l2, .slice p2 q2.length c2], .slice p3 q3.length c3] w fun e w' => e = .returned (.tuple #[.string x, .string y, .int .i64 0]) ∧ Below w.heap.size w w' := by
  have hl1 : l1.size ≤ maxLen := Nat.le_trans (ansB_parts h1).2.2.2.2 (by decide)
  have hl2 : l2.size ≤ maxLen := Nat.le_trans (ansB_parts h2).2.2.2.2 (by decide)
  have hx0 : Box ((w.alloc (.cells #[.int .i64 n1, .int .i64 i, .string l1, .slice p1 q1.length c1] 53)).alloc (.cells #[.int .i64 n2, .int .i64 i, .string l2, .slice p2 q2.length c2] 53)) w.heap.size 53 [.int .i64 n1, .int .i64 i, .string l1, .slice p1 q1.length c1] := (Box.new w 53 [.int .i64 n1, .int .i64 i, .string l1, .slice p1 q1.length c1]).alloc _
  have hy0 : Box ((w.alloc (.cells #[.int .i64 n1, .int .i64 i, .string l1, .slice p1 q1.length c1] 53)).alloc (.cells #[.int .i64 n2, .int .i64 i, .string l2, .slice p2 q2.length c2] 53)) (w.heap.size + 1) 53 [.int .i64 n2, .int .i64 i, .string l2, .slice p2 q2.length c2] := Box.new2 w _ 53 [.int .i64 n2, .int .i64 i, .string l2, .slice p2 q2.length c2]
  have hk0 : Below w.heap.size w ((w.alloc (.cells #[.int .i64 n1, .int .i64 i, .string l1, .slice p1 q1.length c1] 53)).alloc (.cells #[.int .i64 n2, .int .i64 i, .string l2, .slice p2 q2.length c2] 53)) := ((Below.refl _ _).alloc (Nat.le_refl _) _).alloc (by simp) _
  have HA : Hid _ := fun w => tmayans_any n1 i l1 (.slice p1 q1.length c1) w hl1 ⟨_, _, _, rfl⟩
  have HB : Hid _ := fun w => tmayans_any n2 i l2 (.slice p2 q2.length c2) w hl2 ⟨_, _, _, rfl⟩
  rw [h2] at HB
  have HR1 : Hid _ := hr1
  have HR2 : Hid _ := hr2
  have HR3 : Hid _ := hr3
  clear hr1 hr2 hr3 h2 hl1 hl2
  have hne := bytes_ne he
  clear he
  rw [h1] at HA
  have qc0 := hx0.cell 0
  have qc1 := hx0.cell 1
  have qc2 := hx0.cell 2
  have qc3 := hx0.cell 3
  go_enter Try.func27, Try.ntmps27
  go_wp2_with fail
  refine (HA.out _).mono ?_
  rintro e w1 ⟨rfl, hb1⟩
  have hx1 := hx0.grow hb1 hx0.lt
  have hy1 := hy0.grow hb1 hy0.lt
  have hk1 := hk0.trans (hb1.mono hk0.size)
  clear hb1 qc0 qc1 qc2 qc3 hx0 hy0 hk0 HA
  clear h1
  have qd0 := hy1.cell 0
  have qd1 := hy1.cell 1
  have qd2 := hy1.cell 2
  have qd3 := hy1.cell 3
  go_wp2_with fail
  refine (HB.out _).mono ?_
  rintro e w2 ⟨rfl, hb2⟩
  have hx2 := hx1.grow hb2 hx1.lt
  have hy2 := hy1.grow hb2 hy1.lt
  have hk2 := hk1.trans (hb2.mono hk1.size)
  clear hb2 qd0 qd1 qd2 qd3 hx1 hy1 hk1 HB
  have qc0 := hx2.cell 0
  have qc1 := hx2.cell 1
  have qc2 := hx2.cell 2
  have qc3 := hx2.cell 3
  have qd0 := hy2.cell 0
  have qd1 := hy2.cell 1
  have qd2 := hy2.cell 2
  have qd3 := hy2.cell 3
  go_wp2_with fail
  refine (HF.out _ (HR1.out.grow hk2 (Nat.le_refl _)) (HR2.out.grow hk2 (Nat.le_refl _)) (HR3.out.grow hk2 (Nat.le_refl _))).mono ?_
  rintro e w3 ⟨v3, rfl, ho3, hz3, hb3⟩
  have hk3 := hk2.trans (hb3.mono hk2.size)
  have hx3 := hx2.grow hb3 hx2.lt
  have hy3 := hy2.grow hb3 hy2.lt
  have e2 := hx3.cell 2
  have e6 := hy3.cell 2
  clear hb3 HF HR1 HR2 HR3 hx2 hy2
  obtain ⟨g, d3, rfl, _, hcap, hcm, hrow⟩ := ho3.open hT (fun s hs => Nat.le_trans (hz3 s hs) (by decide)) (by unfold maxLen; omega)
  have hS := tsclash_any g 0 d3 T w3 hrow hcap hcm hTl
  rw [hxy] at hS
  have HS : Hid _ := hS
  clear ho3 hz3 hS hrow hxy
  go_wp2_with fail
  refine Calls.mono HS.out ?_
  rintro e w4 ⟨rfl, hb4⟩
  have hk4 := hk3.trans (hb4.mono hk3.size)
  clear hb4 HS
  go_wp2_with fail
  refine bodyPost_ret (v := .tuple #[.string x, .string y, .int .i64 0]) (by simp [results, Try.results27, go_sem]) rfl ⟨rfl, hk4⟩

theorem leafT_len (leaf : ByteArray) (n i : Nat) (p t : List ByteArray) (r : ByteArray) (h1 : 1 ≤ n) (hi : i < n) (h40 : n ≤ 40) (h : Pl.leafT leaf i n p = some (t, r)) : 1 ≤ t.length ∧ t.length ≤ 81 := by
  obtain ⟨_, _, ht⟩ := Pl.leafT_texts leaf n i p t r h1 hi h
  have hl := Pl.climbT_length (Pl.lsides i n) p [Pl.sumB (Pl.textL leaf)] (by simp) (by simp)
  have hs := Pl.lsides_length n i
  rw [ht, List.length_cons]
  omega
theorem bothT_len (old : ByteArray) (n m : Nat) (p t : List ByteArray) (a b : ByteArray) (h1 : 1 ≤ m) (h2 : m ≤ n) (h40 : n ≤ 40) (h : Pl.bothT old m n true p = some (t, a, b)) : t.length ≤ 80 := by
  have ht := Pl.bothT_texts old n m true p t a b h1 h2 h
  have hs := Pl.gsides_length n m h1 h2
  rw [ht]
  unfold Pl.growthT
  split
  · have hl := Pl.climbT_length (Pl.gsides m n) p [old, old] (by simp) (by simp)
    omega
  · split
    · simp
    · rename_i s r
      have hl := Pl.climbT_length (Pl.gsides m n) r [s, s] (by simp) (by simp)
      omega

/-- What the program's Clash answers: what is to be answered. -/
theorem tclash_any (n1 i1 : Int) (l1 : ByteArray) (p1 : Option Addr) (q1 : List ByteArray) (c1 : Nat) (n2 i2 : Int) (l2 : ByteArray) (p2 : Option Addr) (q2 : List ByteArray) (c2 : Nat) (p3 : Option Addr) (q3 : List ByteArray) (c3 : Nat) (w : World)
    (hl1 : l1.size ≤ maxLen) (hl2 : l2.size ≤ maxLen) (hr1 : Row w p1 q1) (hr2 : Row w p2 q2) (hr3 : Row w p3 q3) (hc3 : q3.length ≤ c3) :
    Calls Try.prog 27 #[.agg #[.int .i64 n1, .int .i64 i1, .string l1, .slice p1 q1.length c1], .agg #[.int .i64 n2, .int .i64 i2, .string l2, .slice p2 q2.length c2], .slice p3 q3.length c3] w fun e w' => e = .returned (.tuple #[.string (clashA n1 i1 l1 q1 n2 i2 l2 q2 q3).1, .string (clashA n1 i1 l1 q1 n2 i2 l2 q2 q3).2.1, .int .i64 (clashA n1 i1 l1 q1 n2 i2 l2 q2 q3).2.2]) ∧ Below w.heap.size w w' := by
  by_cases h : Pl.ansB n1 i1 l1 = true ∧ Pl.ansB n2 i2 l2 = true ∧ i1 = i2 ∧ n1 ≤ n2
  · obtain ⟨h1, h2, h3, h4⟩ := h
    subst h3
    obtain ⟨a1, a2, a3, a4, a5⟩ := ansB_parts h1
    obtain ⟨b1, b2, b3, b4, b5⟩ := ansB_parts h2
    obtain ⟨m, rfl⟩ : ∃ m : Nat, n1 = (m : Int) := ⟨n1.toNat, by omega⟩
    obtain ⟨n, rfl⟩ : ∃ n : Nat, n2 = (n : Int) := ⟨n2.toNat, by omega⟩
    obtain ⟨i, rfl⟩ : ∃ i : Nat, i1 = (i : Int) := ⟨i1.toNat, by omega⟩
    have hA : clashA (m : Int) (i : Int) l1 q1 (n : Int) (i : Int) l2 q2 q3 = (match Pl.leafT l1 i m q1, Pl.leafT l2 i n q2 with
      | some (t1, x), some (t2, y) =>
        (match Pl.bothT x m n true q3 with
        | some (t3, u, v) => if u = x ∧ v = y then clashV l1 l2 (t1 ++ t2 ++ t3) else (⟨#[]⟩, ⟨#[]⟩, 6)
        | none => (⟨#[]⟩, ⟨#[]⟩, 6))
      | _, _ => (⟨#[]⟩, ⟨#[]⟩, 6)) := by
      unfold clashA
      rw [if_pos ⟨h1, h2, rfl, h4⟩]
      rfl
    have FN1 : ∀ w, Row w p1 q1 → Pl.leafT l1 i m q1 = none → _ := fun w hr hT => tfoldans_no m i l1 p1 c1 q1 w a5 (by omega) (by omega) (by omega) hr hT
    have FN2 : ∀ w, Row w p2 q2 → Pl.leafT l2 i n q2 = none → _ := fun w hr hT => tfoldans_no n i l2 p2 c2 q2 w b5 (by omega) (by omega) (by omega) hr hT
    have FY1 : ∀ w, Row w p1 q1 → ∀ t x, Pl.leafT l1 i m q1 = some (t, x) → _ := fun w hr t x hT => tfoldans_yes m i l1 p1 c1 q1 w a5 (by omega) (by omega) (by omega) hr t x hT
    have FY2 : ∀ w, Row w p2 q2 → ∀ t x, Pl.leafT l2 i n q2 = some (t, x) → _ := fun w hr t x hT => tfoldans_yes n i l2 p2 c2 q2 w b5 (by omega) (by omega) (by omega) hr t x hT
    cases hT1 : Pl.leafT l1 i m q1 with
    | none =>
      rw [hA, hT1]
      refine tclash_no m n i l1 p1 q1 c1 l2 p2 q2 c2 p3 q3 c3 w h1 h2 h4 hr1 hr2 hr3 (fun w hr1 hr2 hr3 => ?_)
      cases hT2 : Pl.leafT l2 i n q2 with
      | none =>
        exact (tfoldall_no m n i l1 p1 q1 c1 l2 p2 q2 c2 p3 q3 c3 w hr1 hr2 false false rfl (fun w hr => (FN1 w hr hT1).mono fun e w' ⟨he, hb⟩ => ⟨_, _, _, _, _, _, he, hb⟩) (fun w hr => (FN2 w hr hT2).mono fun e w' ⟨he, hb⟩ => ⟨_, _, _, _, _, _, he, hb⟩)).mono fun e w' ⟨he, hb⟩ => ⟨_, _, _, he, hb⟩
      | some z =>
        obtain ⟨t2, y⟩ := z
        exact (tfoldall_no m n i l1 p1 q1 c1 l2 p2 q2 c2 p3 q3 c3 w hr1 hr2 false true rfl (fun w hr => (FN1 w hr hT1).mono fun e w' ⟨he, hb⟩ => ⟨_, _, _, _, _, _, he, hb⟩) (fun w hr => (FY2 w hr t2 y hT2).mono fun e w' ⟨R, v, he, hfo, hb⟩ => by
          obtain ⟨s3, d3, rfl⟩ := own_slice hfo.own
          exact ⟨_, _, _, _, _, _, he, hb⟩)).mono fun e w' ⟨he, hb⟩ => ⟨_, _, _, he, hb⟩
    | some z =>
      obtain ⟨t1, x⟩ := z
      cases hT2 : Pl.leafT l2 i n q2 with
      | none =>
        rw [hA, hT1, hT2]
        refine tclash_no m n i l1 p1 q1 c1 l2 p2 q2 c2 p3 q3 c3 w h1 h2 h4 hr1 hr2 hr3 (fun w hr1 hr2 hr3 => ?_)
        exact (tfoldall_no m n i l1 p1 q1 c1 l2 p2 q2 c2 p3 q3 c3 w hr1 hr2 true false rfl (fun w hr => (FY1 w hr t1 x hT1).mono fun e w' ⟨R, v, he, hfo, hb⟩ => by
          obtain ⟨s3, d3, rfl⟩ := own_slice hfo.own
          exact ⟨_, _, _, _, _, _, he, hb⟩) (fun w hr => (FN2 w hr hT2).mono fun e w' ⟨he, hb⟩ => ⟨_, _, _, _, _, _, he, hb⟩)).mono fun e w' ⟨he, hb⟩ => ⟨_, _, _, he, hb⟩
      | some z2 =>
        obtain ⟨t2, y⟩ := z2
        have hx4 : x.size = 4 := isSumB_size (Pl.leafT_size l1 m i q1 t1 x (by omega) (by omega) hT1)
        obtain ⟨k1, k2⟩ := leafT_len l1 m i q1 t1 x (by omega) (by omega) (by omega) hT1
        obtain ⟨k3, k4⟩ := leafT_len l2 n i q2 t2 y (by omega) (by omega) (by omega) hT2
        have NO : ∀ (hN : ∀ w, Row w p3 q3 → Calls Try.prog 48 #[.agg #[.int .i64 m, .string x], .agg #[.int .i64 n, .string y], .slice p3 q3.length c3] w fun e w' => e = .returned (.tuple #[.agg #[.slice none 0 0, .slice none 0 0], .bool false]) ∧ Below w.heap.size w w'),
            Calls Try.prog 27 #[.agg #[.int .i64 m, .int .i64 i, .string l1, .slice p1 q1.length c1], .agg #[.int .i64 n, .int .i64 i, .string l2, .slice p2 q2.length c2], .slice p3 q3.length c3] w fun e w' => e = .returned (.tuple #[.string ⟨#[]⟩, .string ⟨#[]⟩, .int .i64 6]) ∧ Below w.heap.size w w' := fun hN => by
          refine tclash_no m n i l1 p1 q1 c1 l2 p2 q2 c2 p3 q3 c3 w h1 h2 h4 hr1 hr2 hr3 (fun w hr1 hr2 hr3 => ?_)
          refine (tfoldall_both m n i l1 p1 q1 c1 l2 p2 q2 c2 p3 q3 c3 w hr1 hr2 hr3 t1 t2 [] x y false (by simp; omega) k1 (fun w hr => FY1 w hr t1 x hT1) (fun w hr => FY2 w hr t2 y hT2) (fun w hr => (hN w hr).mono fun e w' ⟨he, hb⟩ => ⟨_, _, _, _, he, own_nil _ _, by simp, hb⟩)).mono fun e w' ⟨v, he, ho, _, hb⟩ => ?_
          obtain ⟨s3, d3, rfl⟩ := own_slice ho
          exact ⟨_, _, _, he, hb⟩
        cases hT3 : Pl.bothT x m n true q3 with
        | none =>
          rw [hA, hT1, hT2]
          simp only [hT3]
          exact NO fun w hr => tfoldheads_no m n x y p3 c3 q3 w hx4 (by omega) (by omega) (by omega) hr hc3 hT3
        | some z3 =>
          obtain ⟨t3, u, v⟩ := z3
          by_cases hu : u = x
          · by_cases hv : v = y
            · subst hu hv
              have k5 := bothT_len u n m q3 t3 u v (by omega) (by omega) (by omega) hT3
              have hAA : clashA (m : Int) (i : Int) l1 q1 (n : Int) (i : Int) l2 q2 q3 = clashV l1 l2 (t1 ++ t2 ++ t3) := by
                rw [hA, hT1, hT2]
                simp only [hT3, and_self, if_true]
              have HF : ∀ w, Row w p1 q1 → Row w p2 q2 → Row w p3 q3 → _ := fun w hr1 hr2 hr3 => tfoldall_both m n i l1 p1 q1 c1 l2 p2 q2 c2 p3 q3 c3 w hr1 hr2 hr3 t1 t2 t3 u v true (by omega) k1 (fun w hr => FY1 w hr t1 u hT1) (fun w hr => FY2 w hr t2 v hT2) (fun w hr => (tfoldheads_yes m n u v p3 c3 q3 w hx4 (by omega) (by omega) (by omega) hr hc3 t3 hT3).mono fun e w' ⟨R, z, he, hfo, hb⟩ => ⟨_, _, _, _, he, hfo.own, hfo.size, hb⟩)
              by_cases hl : l1 = l2
              · rw [hAA]
                unfold clashV
                rw [if_pos hl]
                exact tclash_same m n i l1 p1 q1 c1 l2 p2 q2 c2 p3 q3 c3 w h1 h2 h4 hr1 hr2 hr3 (t1 ++ t2 ++ t3) hl HF
              · have hi1 : inclA u (m : Int) (i : Int) l1 q1 = 0 := by
                  unfold inclA
                  rw [if_pos ⟨Pl.leafT_size l1 m i q1 t1 u (by omega) (by omega) hT1, h1⟩, Int.toNat_natCast, Int.toNat_natCast, hT1]
                  simp
                have hi2 : inclA v (n : Int) (i : Int) l2 q2 = 0 := by
                  unfold inclA
                  rw [if_pos ⟨Pl.leafT_size l2 n i q2 t2 v (by omega) (by omega) hT2, h2⟩, Int.toNat_natCast, Int.toNat_natCast, hT2]
                  simp
                have hi3 : extA (m : Int) u (n : Int) v q3 = 0 := by
                  unfold extA
                  rw [if_pos ⟨Pl.leafT_size l1 m i q1 t1 u (by omega) (by omega) hT1, Pl.leafT_size l2 n i q2 t2 v (by omega) (by omega) hT2, by omega, by omega, by omega⟩, Int.toNat_natCast, Int.toNat_natCast, hT3]
                  simp
                rcases sound_plain m i l1 q1 n l2 q2 q3 u v hi1 hi2 hi3 with ⟨a, b, hab, _⟩ | ⟨_, hll⟩
                · rw [hab]
                  rw [hAA] at hab
                  unfold clashV at hab
                  rw [if_neg hl] at hab
                  have hlat : Pl.pairOf (Pl.later (t1 ++ t2 ++ t3)) = (a, b) := by
                    rw [← Pl.clashF_all]
                    cases hcf : Pl.clashF (t1 ++ t2 ++ t3) (t1 ++ t2 ++ t3) with
                    | none => rw [hcf] at hab; simp at hab
                    | some z =>
                      obtain ⟨s, t⟩ := z
                      rw [hcf] at hab
                      simp only [Prod.mk.injEq, and_true] at hab
                      rw [hab.1, hab.2]
                      rfl
                  exact tclash_yes m n i l1 p1 q1 c1 l2 p2 q2 c2 p3 q3 c3 w h1 h2 h4 hr1 hr2 hr3 (t1 ++ t2 ++ t3) hl (by intro h0; have := congrArg List.length h0; simp only [List.length_append, List.length_nil] at this; omega) (by simp only [List.length_append]; omega) a b hlat HF
                · exact absurd hll hl
            · subst hu
              rw [hA, hT1, hT2]
              simp only [hT3, hv, and_false, if_false]
              exact NO fun w hr => tfoldheads_two m n u y p3 c3 q3 w hx4 (by omega) (by omega) (by omega) hr hc3 t3 v hT3 hv
          · rw [hA, hT1, hT2]
            simp only [hT3, hu, false_and, if_false]
            exact NO fun w hr => tfoldheads_one m n x y p3 c3 q3 w hx4 (by omega) (by omega) (by omega) hr hc3 t3 u v hT3 hu
  · have he : clashA n1 i1 l1 q1 n2 i2 l2 q2 q3 = (⟨#[]⟩, ⟨#[]⟩, 1) := if_neg h
    rw [he]
    cases h1 : Pl.ansB n1 i1 l1 with
    | false => exact tclash_arg1 n1 i1 l1 p1 q1.length c1 n2 i2 l2 p2 q2.length c2 p3 q3.length c3 w hl1 hl2 h1
    | true =>
      cases h2 : Pl.ansB n2 i2 l2 with
      | false => exact tclash_arg2 n1 i1 l1 p1 q1.length c1 n2 i2 l2 p2 q2.length c2 p3 q3.length c3 w hl1 hl2 h1 h2
      | true =>
        by_cases h3 : i1 = i2
        · by_cases h4 : n1 ≤ n2
          · exact absurd ⟨h1, h2, h3, h4⟩ h
          · exact tclash_arg4 n1 i1 l1 p1 q1.length c1 n2 i2 l2 p2 q2.length c2 p3 q3.length c3 w hl1 hl2 h1 h2 h3 (by omega)
        · exact tclash_arg3 n1 i1 l1 p1 q1.length c1 n2 i2 l2 p2 q2.length c2 p3 q3.length c3 w hl1 hl2 h1 h2 h3
end Go.Proofs.Ytkhnjipjbhcgdab
