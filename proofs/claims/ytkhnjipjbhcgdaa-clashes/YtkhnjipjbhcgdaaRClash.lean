/-
  THE WALK of treeheadref.Clash.
-/
import Derived.Test.YtkhnjipjbhcgdaaRBoth
import Derived.Test.YtkhnjipjbhcgdaaTBox
import Derived.Test.YtkhnjipjbhcgdaaAns3
namespace Go.Proofs.Ytkhnjipjbhcgdaa
open Go.RowKit Hp

set_option maxRecDepth 100000 in
set_option maxHeartbeats 2000000 in
theorem rclash_arg1 (n1 i1 : Int) (l1 : ByteArray) (p1 : Option Addr) (k1 c1 : Nat) (n2 i2 : Int) (l2 : ByteArray) (p2 : Option Addr) (k2 c2 : Nat) (p3 : Option Addr) (k3 c3 : Nat) (w : World) (h1 : Pl.ansB n1 i1 l1 = false) :
    Calls Try.prog 41 #[.agg #[.int .i64 n1, .int .i64 i1, .string l1, .slice p1 k1 c1], .agg #[.int .i64 n2, .int .i64 i2, .string l2, .slice p2 k2 c2], .slice p3 k3 c3] w fun e w' => e = .returned (.tuple #[.string ⟨#[]⟩, .string ⟨#[]⟩, .int .i64 1]) ∧ Below w.heap.size w w' := by
  have hxa : Box ((w.alloc (.cells #[.int .i64 n1, .int .i64 i1, .string l1, .slice p1 k1 c1] 36)).alloc (.cells #[.int .i64 n2, .int .i64 i2, .string l2, .slice p2 k2 c2] 36)) w.heap.size 36 [.int .i64 n1, .int .i64 i1, .string l1, .slice p1 k1 c1] := (Box.new w 36 [.int .i64 n1, .int .i64 i1, .string l1, .slice p1 k1 c1]).alloc _
  have hxb : Box ((w.alloc (.cells #[.int .i64 n1, .int .i64 i1, .string l1, .slice p1 k1 c1] 36)).alloc (.cells #[.int .i64 n2, .int .i64 i2, .string l2, .slice p2 k2 c2] 36)) (w.heap.size + 1) 36 [.int .i64 n2, .int .i64 i2, .string l2, .slice p2 k2 c2] := by
    have h := Box.new (w.alloc (.cells #[.int .i64 n1, .int .i64 i1, .string l1, .slice p1 k1 c1] 36)) 36 [.int .i64 n2, .int .i64 i2, .string l2, .slice p2 k2 c2]
    simpa using h
  have hk : Below w.heap.size w ((w.alloc (.cells #[.int .i64 n1, .int .i64 i1, .string l1, .slice p1 k1 c1] 36)).alloc (.cells #[.int .i64 n2, .int .i64 i2, .string l2, .slice p2 k2 c2] 36)) := ((Below.refl _ _).alloc (Nat.le_refl _) _).alloc (by simp) _
  have ha := fun w => ranswers_any n1 i1 l1 (.slice p1 k1 c1) w
  have hb := fun w => ranswers_any n2 i2 l2 (.slice p2 k2 c2) w
  rw [h1] at ha
  have qa0 := hxa.cell 0
  have qa1 := hxa.cell 1
  have qa2 := hxa.cell 2
  have qa3 := hxa.cell 3
  go_enter Try.func41, Try.ntmps41
  go_wp2_with fail
  refine (ha _).mono ?_
  rintro e w1 ⟨rfl, hb1⟩
  clear qa0 qa1 qa2 qa3
  replace hxa := hxa.grow hb1 (by simp; omega)
  replace hxb := hxb.grow hb1 (by simp)
  replace hk := hk.trans (hb1.mono hk.size)
  have qb0 := hxb.cell 0
  have qb1 := hxb.cell 1
  have qb2 := hxb.cell 2
  have qb3 := hxb.cell 3
  clear hb1
  go_wp2_with fail
  refine (hb _).mono ?_
  rintro e w2 ⟨rfl, hb2⟩
  clear qb0 qb1 qb2 qb3
  replace hxa := hxa.grow hb2 hxa.lt
  replace hxb := hxb.grow hb2 hxb.lt
  replace hk := hk.trans (hb2.mono hk.size)
  clear hb2
  have qa0 := hxa.cell 0
  have qa1 := hxa.cell 1
  have qa2 := hxa.cell 2
  have qa3 := hxa.cell 3
  have qb0 := hxb.cell 0
  have qb1 := hxb.cell 1
  have qb2 := hxb.cell 2
  have qb3 := hxb.cell 3
  go_wp2_with fail
  refine bodyPost_ret (v := .tuple #[.string ⟨#[]⟩, .string ⟨#[]⟩, .int .i64 1]) (by simp [results, Try.results41, go_sem]) rfl ⟨rfl, hk⟩

set_option maxRecDepth 100000 in
set_option maxHeartbeats 2000000 in
theorem rclash_arg2 (n1 i1 : Int) (l1 : ByteArray) (p1 : Option Addr) (k1 c1 : Nat) (n2 i2 : Int) (l2 : ByteArray) (p2 : Option Addr) (k2 c2 : Nat) (p3 : Option Addr) (k3 c3 : Nat) (w : World) (h1 : Pl.ansB n1 i1 l1 = true) (h2 : Pl.ansB n2 i2 l2 = false) :
    Calls Try.prog 41 #[.agg #[.int .i64 n1, .int .i64 i1, .string l1, .slice p1 k1 c1], .agg #[.int .i64 n2, .int .i64 i2, .string l2, .slice p2 k2 c2], .slice p3 k3 c3] w fun e w' => e = .returned (.tuple #[.string ⟨#[]⟩, .string ⟨#[]⟩, .int .i64 1]) ∧ Below w.heap.size w w' := by
  have hxa : Box ((w.alloc (.cells #[.int .i64 n1, .int .i64 i1, .string l1, .slice p1 k1 c1] 36)).alloc (.cells #[.int .i64 n2, .int .i64 i2, .string l2, .slice p2 k2 c2] 36)) w.heap.size 36 [.int .i64 n1, .int .i64 i1, .string l1, .slice p1 k1 c1] := (Box.new w 36 [.int .i64 n1, .int .i64 i1, .string l1, .slice p1 k1 c1]).alloc _
  have hxb : Box ((w.alloc (.cells #[.int .i64 n1, .int .i64 i1, .string l1, .slice p1 k1 c1] 36)).alloc (.cells #[.int .i64 n2, .int .i64 i2, .string l2, .slice p2 k2 c2] 36)) (w.heap.size + 1) 36 [.int .i64 n2, .int .i64 i2, .string l2, .slice p2 k2 c2] := by
    have h := Box.new (w.alloc (.cells #[.int .i64 n1, .int .i64 i1, .string l1, .slice p1 k1 c1] 36)) 36 [.int .i64 n2, .int .i64 i2, .string l2, .slice p2 k2 c2]
    simpa using h
  have hk : Below w.heap.size w ((w.alloc (.cells #[.int .i64 n1, .int .i64 i1, .string l1, .slice p1 k1 c1] 36)).alloc (.cells #[.int .i64 n2, .int .i64 i2, .string l2, .slice p2 k2 c2] 36)) := ((Below.refl _ _).alloc (Nat.le_refl _) _).alloc (by simp) _
  have ha := fun w => ranswers_any n1 i1 l1 (.slice p1 k1 c1) w
  have hb := fun w => ranswers_any n2 i2 l2 (.slice p2 k2 c2) w
  rw [h1] at ha
  rw [h2] at hb
  have qa0 := hxa.cell 0
  have qa1 := hxa.cell 1
  have qa2 := hxa.cell 2
  have qa3 := hxa.cell 3
  go_enter Try.func41, Try.ntmps41
  go_wp2_with fail
  refine (ha _).mono ?_
  rintro e w1 ⟨rfl, hb1⟩
  clear qa0 qa1 qa2 qa3
  replace hxa := hxa.grow hb1 (by simp; omega)
  replace hxb := hxb.grow hb1 (by simp)
  replace hk := hk.trans (hb1.mono hk.size)
  have qb0 := hxb.cell 0
  have qb1 := hxb.cell 1
  have qb2 := hxb.cell 2
  have qb3 := hxb.cell 3
  clear hb1
  go_wp2_with fail
  refine (hb _).mono ?_
  rintro e w2 ⟨rfl, hb2⟩
  clear qb0 qb1 qb2 qb3
  replace hxa := hxa.grow hb2 hxa.lt
  replace hxb := hxb.grow hb2 hxb.lt
  replace hk := hk.trans (hb2.mono hk.size)
  clear hb2
  have qa0 := hxa.cell 0
  have qa1 := hxa.cell 1
  have qa2 := hxa.cell 2
  have qa3 := hxa.cell 3
  have qb0 := hxb.cell 0
  have qb1 := hxb.cell 1
  have qb2 := hxb.cell 2
  have qb3 := hxb.cell 3
  go_wp2_with fail
  refine bodyPost_ret (v := .tuple #[.string ⟨#[]⟩, .string ⟨#[]⟩, .int .i64 1]) (by simp [results, Try.results41, go_sem]) rfl ⟨rfl, hk⟩

set_option maxRecDepth 100000 in
set_option maxHeartbeats 2000000 in
theorem rclash_arg3 (n1 i1 : Int) (l1 : ByteArray) (p1 : Option Addr) (k1 c1 : Nat) (n2 i2 : Int) (l2 : ByteArray) (p2 : Option Addr) (k2 c2 : Nat) (p3 : Option Addr) (k3 c3 : Nat) (w : World) (h1 : Pl.ansB n1 i1 l1 = true) (h2 : Pl.ansB n2 i2 l2 = true) (h3 : ¬ i1 = i2) :
    Calls Try.prog 41 #[.agg #[.int .i64 n1, .int .i64 i1, .string l1, .slice p1 k1 c1], .agg #[.int .i64 n2, .int .i64 i2, .string l2, .slice p2 k2 c2], .slice p3 k3 c3] w fun e w' => e = .returned (.tuple #[.string ⟨#[]⟩, .string ⟨#[]⟩, .int .i64 1]) ∧ Below w.heap.size w w' := by
  have hxa : Box ((w.alloc (.cells #[.int .i64 n1, .int .i64 i1, .string l1, .slice p1 k1 c1] 36)).alloc (.cells #[.int .i64 n2, .int .i64 i2, .string l2, .slice p2 k2 c2] 36)) w.heap.size 36 [.int .i64 n1, .int .i64 i1, .string l1, .slice p1 k1 c1] := (Box.new w 36 [.int .i64 n1, .int .i64 i1, .string l1, .slice p1 k1 c1]).alloc _
  have hxb : Box ((w.alloc (.cells #[.int .i64 n1, .int .i64 i1, .string l1, .slice p1 k1 c1] 36)).alloc (.cells #[.int .i64 n2, .int .i64 i2, .string l2, .slice p2 k2 c2] 36)) (w.heap.size + 1) 36 [.int .i64 n2, .int .i64 i2, .string l2, .slice p2 k2 c2] := by
    have h := Box.new (w.alloc (.cells #[.int .i64 n1, .int .i64 i1, .string l1, .slice p1 k1 c1] 36)) 36 [.int .i64 n2, .int .i64 i2, .string l2, .slice p2 k2 c2]
    simpa using h
  have hk : Below w.heap.size w ((w.alloc (.cells #[.int .i64 n1, .int .i64 i1, .string l1, .slice p1 k1 c1] 36)).alloc (.cells #[.int .i64 n2, .int .i64 i2, .string l2, .slice p2 k2 c2] 36)) := ((Below.refl _ _).alloc (Nat.le_refl _) _).alloc (by simp) _
  have ha := fun w => ranswers_any n1 i1 l1 (.slice p1 k1 c1) w
  have hb := fun w => ranswers_any n2 i2 l2 (.slice p2 k2 c2) w
  rw [h1] at ha
  rw [h2] at hb
  have qa0 := hxa.cell 0
  have qa1 := hxa.cell 1
  have qa2 := hxa.cell 2
  have qa3 := hxa.cell 3
  go_enter Try.func41, Try.ntmps41
  go_wp2_with fail
  refine (ha _).mono ?_
  rintro e w1 ⟨rfl, hb1⟩
  clear qa0 qa1 qa2 qa3
  replace hxa := hxa.grow hb1 (by simp; omega)
  replace hxb := hxb.grow hb1 (by simp)
  replace hk := hk.trans (hb1.mono hk.size)
  have qb0 := hxb.cell 0
  have qb1 := hxb.cell 1
  have qb2 := hxb.cell 2
  have qb3 := hxb.cell 3
  clear hb1
  go_wp2_with fail
  refine (hb _).mono ?_
  rintro e w2 ⟨rfl, hb2⟩
  clear qb0 qb1 qb2 qb3
  replace hxa := hxa.grow hb2 hxa.lt
  replace hxb := hxb.grow hb2 hxb.lt
  replace hk := hk.trans (hb2.mono hk.size)
  clear hb2
  have qa0 := hxa.cell 0
  have qa1 := hxa.cell 1
  have qa2 := hxa.cell 2
  have qa3 := hxa.cell 3
  have qb0 := hxb.cell 0
  have qb1 := hxb.cell 1
  have qb2 := hxb.cell 2
  have qb3 := hxb.cell 3
  go_wp2_with fail
  refine bodyPost_ret (v := .tuple #[.string ⟨#[]⟩, .string ⟨#[]⟩, .int .i64 1]) (by simp [results, Try.results41, go_sem]) rfl ⟨rfl, hk⟩

set_option maxRecDepth 100000 in
set_option maxHeartbeats 2000000 in
theorem rclash_arg4 (n1 i1 : Int) (l1 : ByteArray) (p1 : Option Addr) (k1 c1 : Nat) (n2 i2 : Int) (l2 : ByteArray) (p2 : Option Addr) (k2 c2 : Nat) (p3 : Option Addr) (k3 c3 : Nat) (w : World) (h1 : Pl.ansB n1 i1 l1 = true) (h2 : Pl.ansB n2 i2 l2 = true) (h3 : i1 = i2) (h4 : n2 < n1) :
    Calls Try.prog 41 #[.agg #[.int .i64 n1, .int .i64 i1, .string l1, .slice p1 k1 c1], .agg #[.int .i64 n2, .int .i64 i2, .string l2, .slice p2 k2 c2], .slice p3 k3 c3] w fun e w' => e = .returned (.tuple #[.string ⟨#[]⟩, .string ⟨#[]⟩, .int .i64 1]) ∧ Below w.heap.size w w' := by
  have hxa : Box ((w.alloc (.cells #[.int .i64 n1, .int .i64 i1, .string l1, .slice p1 k1 c1] 36)).alloc (.cells #[.int .i64 n2, .int .i64 i2, .string l2, .slice p2 k2 c2] 36)) w.heap.size 36 [.int .i64 n1, .int .i64 i1, .string l1, .slice p1 k1 c1] := (Box.new w 36 [.int .i64 n1, .int .i64 i1, .string l1, .slice p1 k1 c1]).alloc _
  have hxb : Box ((w.alloc (.cells #[.int .i64 n1, .int .i64 i1, .string l1, .slice p1 k1 c1] 36)).alloc (.cells #[.int .i64 n2, .int .i64 i2, .string l2, .slice p2 k2 c2] 36)) (w.heap.size + 1) 36 [.int .i64 n2, .int .i64 i2, .string l2, .slice p2 k2 c2] := by
    have h := Box.new (w.alloc (.cells #[.int .i64 n1, .int .i64 i1, .string l1, .slice p1 k1 c1] 36)) 36 [.int .i64 n2, .int .i64 i2, .string l2, .slice p2 k2 c2]
    simpa using h
  have hk : Below w.heap.size w ((w.alloc (.cells #[.int .i64 n1, .int .i64 i1, .string l1, .slice p1 k1 c1] 36)).alloc (.cells #[.int .i64 n2, .int .i64 i2, .string l2, .slice p2 k2 c2] 36)) := ((Below.refl _ _).alloc (Nat.le_refl _) _).alloc (by simp) _
  have ha := fun w => ranswers_any n1 i1 l1 (.slice p1 k1 c1) w
  have hb := fun w => ranswers_any n2 i2 l2 (.slice p2 k2 c2) w
  rw [h1] at ha
  rw [h2] at hb
  subst h3
  have qa0 := hxa.cell 0
  have qa1 := hxa.cell 1
  have qa2 := hxa.cell 2
  have qa3 := hxa.cell 3
  go_enter Try.func41, Try.ntmps41
  go_wp2_with fail
  refine (ha _).mono ?_
  rintro e w1 ⟨rfl, hb1⟩
  clear qa0 qa1 qa2 qa3
  replace hxa := hxa.grow hb1 (by simp; omega)
  replace hxb := hxb.grow hb1 (by simp)
  replace hk := hk.trans (hb1.mono hk.size)
  have qb0 := hxb.cell 0
  have qb1 := hxb.cell 1
  have qb2 := hxb.cell 2
  have qb3 := hxb.cell 3
  clear hb1
  go_wp2_with fail
  refine (hb _).mono ?_
  rintro e w2 ⟨rfl, hb2⟩
  clear qb0 qb1 qb2 qb3
  replace hxa := hxa.grow hb2 hxa.lt
  replace hxb := hxb.grow hb2 hxb.lt
  replace hk := hk.trans (hb2.mono hk.size)
  clear hb2
  have qa0 := hxa.cell 0
  have qa1 := hxa.cell 1
  have qa2 := hxa.cell 2
  have qa3 := hxa.cell 3
  have qb0 := hxb.cell 0
  have qb1 := hxb.cell 1
  have qb2 := hxb.cell 2
  have qb3 := hxb.cell 3
  go_wp2_with fail
  refine bodyPost_ret (v := .tuple #[.string ⟨#[]⟩, .string ⟨#[]⟩, .int .i64 1]) (by simp [results, Try.results41, go_sem]) rfl ⟨rfl, hk⟩

/-- What Leaf leaves, in one. -/
theorem FoldEnd.one {B F n : Nat} {ts : List ByteArray} {x : Option (List ByteArray × ByteArray)} {e : Ending} {w w' : World} (h : FoldEnd B F ts n x e w w') (hx : ∀ t r, x = some (t, r) → t.length ≤ n) :
    ∃ r ts', e = .returned (.string r) ∧ FoldAt w' B F ts' x.isSome ∧ ts'.length ≤ ts.length + n ∧ Below B w w' ∧ (x = none ∨ (x = some (ts'.drop ts.length, r) ∧ ts' = ts ++ ts'.drop ts.length)) := by
  obtain ⟨hb, h | h⟩ := h
  · obtain ⟨t, r, rfl, rfl, hf⟩ := h
    have hd : (ts ++ t).drop ts.length = t := by simp
    refine ⟨r, ts ++ t, rfl, hf, ?_, hb, Or.inr ⟨by rw [hd], by rw [hd]⟩⟩
    rw [List.length_append]
    have := hx t r rfl
    omega
  · obtain ⟨rfl, r, ts', rfl, hl, hf⟩ := h
    exact ⟨r, ts', rfl, hf, hl, hb, Or.inl rfl⟩

set_option maxRecDepth 100000 in
set_option maxHeartbeats 4000000 in
theorem rclash_leaf1 (n1 n2 i : Nat) (l1 : ByteArray) (p1 : Option Addr) (q1 : List ByteArray) (c1 : Nat) (l2 : ByteArray) (p2 : Option Addr) (q2 : List ByteArray) (c2 : Nat) (p3 : Option Addr) (q3 : List ByteArray) (c3 : Nat) (w : World)
    (h1 : Pl.ansB n1 i l1 = true) (h2 : Pl.ansB n2 i l2 = true) (h4 : (n1 : Int) ≤ n2) (hr1 : Row w p1 q1) (hr2 : Row w p2 q2) (_hr3 : Row w p3 q3) (hpc1 : q1.length ≤ c1) (hcm1 : c1 ≤ 9223372036854775807) (hpc2 : q2.length ≤ c2) (hcm2 : c2 ≤ 9223372036854775807) (_hpc3 : q3.length ≤ c3) (_hcm3 : c3 ≤ 9223372036854775807) (hx : Pl.leafT l1 i n1 q1 = none) :
    Calls Try.prog 41 #[.agg #[.int .i64 n1, .int .i64 i, .string l1, .slice p1 q1.length c1], .agg #[.int .i64 n2, .int .i64 i, .string l2, .slice p2 q2.length c2], .slice p3 q3.length c3] w fun e w' => e = .returned (.tuple #[.string ⟨#[]⟩, .string ⟨#[]⟩, .int .i64 6]) ∧ Below w.heap.size w w' := by
  obtain ⟨hz1, hz2, hz3, hz4, hz5⟩ := (ansB_iff _ _ _).1 h1
  obtain ⟨hy1, hy2, hy3, hy4, hy5⟩ := (ansB_iff _ _ _).1 h2
  have hxa : Box ((w.alloc (.cells #[.int .i64 n1, .int .i64 i, .string l1, .slice p1 q1.length c1] 36)).alloc (.cells #[.int .i64 n2, .int .i64 i, .string l2, .slice p2 q2.length c2] 36)) w.heap.size 36 [.int .i64 n1, .int .i64 i, .string l1, .slice p1 q1.length c1] := (Box.new w 36 [.int .i64 n1, .int .i64 i, .string l1, .slice p1 q1.length c1]).alloc _
  have hxb : Box ((w.alloc (.cells #[.int .i64 n1, .int .i64 i, .string l1, .slice p1 q1.length c1] 36)).alloc (.cells #[.int .i64 n2, .int .i64 i, .string l2, .slice p2 q2.length c2] 36)) (w.heap.size + 1) 36 [.int .i64 n2, .int .i64 i, .string l2, .slice p2 q2.length c2] := by
    have h := Box.new (w.alloc (.cells #[.int .i64 n1, .int .i64 i, .string l1, .slice p1 q1.length c1] 36)) 36 [.int .i64 n2, .int .i64 i, .string l2, .slice p2 q2.length c2]
    simpa using h
  have hk : Below w.heap.size w ((w.alloc (.cells #[.int .i64 n1, .int .i64 i, .string l1, .slice p1 q1.length c1] 36)).alloc (.cells #[.int .i64 n2, .int .i64 i, .string l2, .slice p2 q2.length c2] 36)) := ((Below.refl _ _).alloc (Nat.le_refl _) _).alloc (by simp) _
  have ha := fun w => ranswers_any n1 i l1 (.slice p1 q1.length c1) w
  have hb := fun w => ranswers_any n2 i l2 (.slice p2 q2.length c2) w
  rw [h1] at ha
  rw [h2] at hb
  have qa0 := hxa.cell 0
  have qa1 := hxa.cell 1
  have qa2 := hxa.cell 2
  have qa3 := hxa.cell 3
  go_enter Try.func41, Try.ntmps41
  go_wp2_with fail
  refine (ha _).mono ?_
  rintro e w1 ⟨rfl, hb1⟩
  clear qa0 qa1 qa2 qa3
  replace hxa := hxa.grow hb1 (by simp; omega)
  replace hxb := hxb.grow hb1 (by simp)
  replace hk := hk.trans (hb1.mono hk.size)
  have qb0 := hxb.cell 0
  have qb1 := hxb.cell 1
  have qb2 := hxb.cell 2
  have qb3 := hxb.cell 3
  clear hb1
  go_wp2_with fail
  refine (hb _).mono ?_
  rintro e w2 ⟨rfl, hb2⟩
  clear qb0 qb1 qb2 qb3
  replace hxa := hxa.grow hb2 hxa.lt
  replace hxb := hxb.grow hb2 hxb.lt
  replace hk := hk.trans (hb2.mono hk.size)
  clear hb2
  have qa0 := hxa.cell 0
  have qa1 := hxa.cell 1
  have qa2 := hxa.cell 2
  have qa3 := hxa.cell 3
  have qb0 := hxb.cell 0
  have qb1 := hxb.cell 1
  have qb2 := hxb.cell 2
  have qb3 := hxb.cell 3
  have hxa3 := hxa.alloc (.cells #[.slice none 0 0, .bool true] 94)
  have hxb3 := hxb.alloc (.cells #[.slice none 0 0, .bool true] 94)
  have qc0 := hxa3.cell 0
  have qc1 := hxa3.cell 1
  have qc2 := hxa3.cell 2
  have qc3 := hxa3.cell 3
  have hlb := hxb.lt
  have hla : w.heap.size < w2.heap.size := by omega
  have hB2 : Below w2.heap.size w2 (w2.alloc (.cells #[.slice none 0 0, .bool true] 94)) := (Below.refl _ _).alloc (Nat.le_refl _) _
  have hL1 := fleaf_any n1 w2.heap.size w2.heap.size w2 p1 c1 q1 l1 i n1 [] _ (Nat.le_refl _) (by omega) (by omega) (by omega) (by omega) (by simp; omega) hpc1 hcm1 (Nat.le_refl _) (hr1.grow hk (Nat.le_refl _)) hB2 (by simp) (fold_new w2)
  have hL2 := fun ts w' hl hB => fleaf_any n2 w2.heap.size w2.heap.size w2 p2 c2 q2 l2 i n2 ts w' (Nat.le_refl _) (by omega) (by omega) (by omega) (by omega) hl hpc2 hcm2 (Nat.le_refl _) (hr2.grow hk (Nat.le_refl _)) hB
  go_wp2_with fail
  refine hL1.mono ?_
  rintro e w4 hend
  obtain ⟨r1, ts1, rfl, hF1, hlen1, hb4, hd1⟩ := hend.one (fun t r h => (leafT_facts (by omega) h).2)
  clear hend hL1 qa0 qa1 qa2 qa3 qb0 qb1 qb2 qb3 qc0 qc1 qc2 qc3
  have hxa4 := (hxa3.grow hb4 hla).other (Nat.ne_of_lt hla) 1 (.bool true)
  have hxb4 := (hxb3.grow hb4 hlb).other (Nat.ne_of_lt hlb) 1 (.bool true)
  have hb5 := (hB2.trans hb4).setCell (p := ⟨w2.heap.size, 1, none⟩) (Nat.le_refl _) (.bool true)
  have hF2 := hF1.setOK true
  obtain ⟨g1, g2⟩ := hF1.cells
  have qb0 := hxb4.cell 0
  have qb1 := hxb4.cell 1
  have qb2 := hxb4.cell 2
  have qb3 := hxb4.cell 3
  have hlF := hF1.lt
  replace hL2 := hL2 ts1 _ (by simp at hlen1; omega) hb5 (by simp; omega) hF2
  clear hxa hxb hxa3 hxb3 hB2 hb4 hF1 hF2
  go_wp2_with fail
  refine hL2.mono ?_
  rintro e w5 hend
  obtain ⟨r2, ts2, rfl, hF2, hlen2, hb6, hd2⟩ := hend.one (fun t r h => (leafT_facts (by omega) h).2)
  have hb7 := hb5.trans hb6
  obtain ⟨u1, u2⟩ := hF2.cells
  clear hend hL2 qb0 qb1 qb2 qb3 g1 g2
  rw [hx] at *
  go_wp2_with fail
  refine bodyPost_ret (v := .tuple #[.string ⟨#[]⟩, .string ⟨#[]⟩, .int .i64 6]) (by simp [results, Try.results41, go_sem]) rfl ⟨rfl, hk.trans (hb7.mono hk.size)⟩

set_option maxRecDepth 100000 in
set_option maxHeartbeats 4000000 in
theorem rclash_leaf2 (n1 n2 i : Nat) (l1 : ByteArray) (p1 : Option Addr) (q1 : List ByteArray) (c1 : Nat) (l2 : ByteArray) (p2 : Option Addr) (q2 : List ByteArray) (c2 : Nat) (p3 : Option Addr) (q3 : List ByteArray) (c3 : Nat) (w : World)
    (h1 : Pl.ansB n1 i l1 = true) (h2 : Pl.ansB n2 i l2 = true) (h4 : (n1 : Int) ≤ n2) (hr1 : Row w p1 q1) (hr2 : Row w p2 q2) (_hr3 : Row w p3 q3) (hpc1 : q1.length ≤ c1) (hcm1 : c1 ≤ 9223372036854775807) (hpc2 : q2.length ≤ c2) (hcm2 : c2 ≤ 9223372036854775807) (_hpc3 : q3.length ≤ c3) (_hcm3 : c3 ≤ 9223372036854775807) (t1 : List ByteArray) (x : ByteArray) (hx1 : Pl.leafT l1 i n1 q1 = some (t1, x)) (hx2 : Pl.leafT l2 i n2 q2 = none) :
    Calls Try.prog 41 #[.agg #[.int .i64 n1, .int .i64 i, .string l1, .slice p1 q1.length c1], .agg #[.int .i64 n2, .int .i64 i, .string l2, .slice p2 q2.length c2], .slice p3 q3.length c3] w fun e w' => e = .returned (.tuple #[.string ⟨#[]⟩, .string ⟨#[]⟩, .int .i64 6]) ∧ Below w.heap.size w w' := by
  obtain ⟨hz1, hz2, hz3, hz4, hz5⟩ := (ansB_iff _ _ _).1 h1
  obtain ⟨hy1, hy2, hy3, hy4, hy5⟩ := (ansB_iff _ _ _).1 h2
  have hxa : Box ((w.alloc (.cells #[.int .i64 n1, .int .i64 i, .string l1, .slice p1 q1.length c1] 36)).alloc (.cells #[.int .i64 n2, .int .i64 i, .string l2, .slice p2 q2.length c2] 36)) w.heap.size 36 [.int .i64 n1, .int .i64 i, .string l1, .slice p1 q1.length c1] := (Box.new w 36 [.int .i64 n1, .int .i64 i, .string l1, .slice p1 q1.length c1]).alloc _
  have hxb : Box ((w.alloc (.cells #[.int .i64 n1, .int .i64 i, .string l1, .slice p1 q1.length c1] 36)).alloc (.cells #[.int .i64 n2, .int .i64 i, .string l2, .slice p2 q2.length c2] 36)) (w.heap.size + 1) 36 [.int .i64 n2, .int .i64 i, .string l2, .slice p2 q2.length c2] := by
    have h := Box.new (w.alloc (.cells #[.int .i64 n1, .int .i64 i, .string l1, .slice p1 q1.length c1] 36)) 36 [.int .i64 n2, .int .i64 i, .string l2, .slice p2 q2.length c2]
    simpa using h
  have hk : Below w.heap.size w ((w.alloc (.cells #[.int .i64 n1, .int .i64 i, .string l1, .slice p1 q1.length c1] 36)).alloc (.cells #[.int .i64 n2, .int .i64 i, .string l2, .slice p2 q2.length c2] 36)) := ((Below.refl _ _).alloc (Nat.le_refl _) _).alloc (by simp) _
  have ha := fun w => ranswers_any n1 i l1 (.slice p1 q1.length c1) w
  have hb := fun w => ranswers_any n2 i l2 (.slice p2 q2.length c2) w
  rw [h1] at ha
  rw [h2] at hb
  have qa0 := hxa.cell 0
  have qa1 := hxa.cell 1
  have qa2 := hxa.cell 2
  have qa3 := hxa.cell 3
  go_enter Try.func41, Try.ntmps41
  go_wp2_with fail
  refine (ha _).mono ?_
  rintro e w1 ⟨rfl, hb1⟩
  clear qa0 qa1 qa2 qa3
  replace hxa := hxa.grow hb1 (by simp; omega)
  replace hxb := hxb.grow hb1 (by simp)
  replace hk := hk.trans (hb1.mono hk.size)
  have qb0 := hxb.cell 0
  have qb1 := hxb.cell 1
  have qb2 := hxb.cell 2
  have qb3 := hxb.cell 3
  clear hb1
  go_wp2_with fail
  refine (hb _).mono ?_
  rintro e w2 ⟨rfl, hb2⟩
  clear qb0 qb1 qb2 qb3
  replace hxa := hxa.grow hb2 hxa.lt
  replace hxb := hxb.grow hb2 hxb.lt
  replace hk := hk.trans (hb2.mono hk.size)
  clear hb2
  have qa0 := hxa.cell 0
  have qa1 := hxa.cell 1
  have qa2 := hxa.cell 2
  have qa3 := hxa.cell 3
  have qb0 := hxb.cell 0
  have qb1 := hxb.cell 1
  have qb2 := hxb.cell 2
  have qb3 := hxb.cell 3
  have hxa3 := hxa.alloc (.cells #[.slice none 0 0, .bool true] 94)
  have hxb3 := hxb.alloc (.cells #[.slice none 0 0, .bool true] 94)
  have qc0 := hxa3.cell 0
  have qc1 := hxa3.cell 1
  have qc2 := hxa3.cell 2
  have qc3 := hxa3.cell 3
  have hlb := hxb.lt
  have hla : w.heap.size < w2.heap.size := by omega
  have hB2 : Below w2.heap.size w2 (w2.alloc (.cells #[.slice none 0 0, .bool true] 94)) := (Below.refl _ _).alloc (Nat.le_refl _) _
  have hL1 := fleaf_any n1 w2.heap.size w2.heap.size w2 p1 c1 q1 l1 i n1 [] _ (Nat.le_refl _) (by omega) (by omega) (by omega) (by omega) (by simp; omega) hpc1 hcm1 (Nat.le_refl _) (hr1.grow hk (Nat.le_refl _)) hB2 (by simp) (fold_new w2)
  have hL2 := fun ts w' hl hB => fleaf_any n2 w2.heap.size w2.heap.size w2 p2 c2 q2 l2 i n2 ts w' (Nat.le_refl _) (by omega) (by omega) (by omega) (by omega) hl hpc2 hcm2 (Nat.le_refl _) (hr2.grow hk (Nat.le_refl _)) hB
  go_wp2_with fail
  refine hL1.mono ?_
  rintro e w4 hend
  obtain ⟨r1, ts1, rfl, hF1, hlen1, hb4, hd1⟩ := hend.one (fun t r h => (leafT_facts (by omega) h).2)
  clear hend hL1 qa0 qa1 qa2 qa3 qb0 qb1 qb2 qb3 qc0 qc1 qc2 qc3
  have hxa4 := (hxa3.grow hb4 hla).other (Nat.ne_of_lt hla) 1 (.bool true)
  have hxb4 := (hxb3.grow hb4 hlb).other (Nat.ne_of_lt hlb) 1 (.bool true)
  have hb5 := (hB2.trans hb4).setCell (p := ⟨w2.heap.size, 1, none⟩) (Nat.le_refl _) (.bool true)
  have hF2 := hF1.setOK true
  obtain ⟨g1, g2⟩ := hF1.cells
  have qb0 := hxb4.cell 0
  have qb1 := hxb4.cell 1
  have qb2 := hxb4.cell 2
  have qb3 := hxb4.cell 3
  have hlF := hF1.lt
  replace hL2 := hL2 ts1 _ (by simp at hlen1; omega) hb5 (by simp; omega) hF2
  clear hxa hxb hxa3 hxb3 hB2 hb4 hF1 hF2
  go_wp2_with fail
  refine hL2.mono ?_
  rintro e w5 hend
  obtain ⟨r2, ts2, rfl, hF2, hlen2, hb6, hd2⟩ := hend.one (fun t r h => (leafT_facts (by omega) h).2)
  have hb7 := hb5.trans hb6
  obtain ⟨u1, u2⟩ := hF2.cells
  clear hend hL2 qb0 qb1 qb2 qb3 g1 g2
  rw [hx1] at *
  rw [hx2] at *
  go_wp2_with fail
  refine bodyPost_ret (v := .tuple #[.string ⟨#[]⟩, .string ⟨#[]⟩, .int .i64 6]) (by simp [results, Try.results41, go_sem]) rfl ⟨rfl, hk.trans (hb7.mono hk.size)⟩
end Go.Proofs.Ytkhnjipjbhcgdaa
