/-
  THE WALK of treeheadref.Clash, behind both leaves.
-/
import Derived.Test.YtkhnjipjbhcgdaaRClash
namespace Go.Proofs.Ytkhnjipjbhcgdaa
open Go.RowKit Hp

set_option maxRecDepth 100000 in
set_option maxHeartbeats 4000000 in
theorem rclash_both0 (n1 n2 i : Nat) (l1 : ByteArray) (p1 : Option Addr) (q1 : List ByteArray) (c1 : Nat) (l2 : ByteArray) (p2 : Option Addr) (q2 : List ByteArray) (c2 : Nat) (p3 : Option Addr) (q3 : List ByteArray) (c3 : Nat) (w : World)
    (h1 : Pl.ansB n1 i l1 = true) (h2 : Pl.ansB n2 i l2 = true) (h4 : (n1 : Int) ≤ n2) (hr1 : Row w p1 q1) (hr2 : Row w p2 q2) (hr3 : Row w p3 q3) (hpc1 : q1.length ≤ c1) (hcm1 : c1 ≤ 9223372036854775807) (hpc2 : q2.length ≤ c2) (hcm2 : c2 ≤ 9223372036854775807) (hpc3 : q3.length ≤ c3) (hcm3 : c3 ≤ 9223372036854775807) (t1 t2 : List ByteArray) (x y : ByteArray) (hx1 : Pl.leafT l1 i n1 q1 = some (t1, x)) (hx2 : Pl.leafT l2 i n2 q2 = some (t2, y)) (hx3 : Pl.bothT x n1 n2 true q3 = none) :
    Calls Try.prog 41 #[.agg #[.int .i64 n1, .int .i64 i, .string l1, .slice p1 q1.length c1], .agg #[.int .i64 n2, .int .i64 i, .string l2, .slice p2 q2.length c2], .slice p3 q3.length c3] w fun e w' => e = .returned (.tuple #[.string ⟨#[]⟩, .string ⟨#[]⟩, .int .i64 6]) ∧ Below w.heap.size w w' := by
  obtain ⟨hz1, hz2, hz3, hz4, hz5⟩ := (ansB_iff _ _ _).1 h1
  obtain ⟨hy1, hy2, hy3, hy4, hy5⟩ := (ansB_iff _ _ _).1 h2
  have hxa : Box ((w.alloc (.cells #[.int .i64 n1, .int .i64 i, .string l1, .slice p1 q1.length c1] 36)).alloc (.cells #[.int .i64 n2, .int .i64 i, .string l2, .slice p2 q2.length c2] 36)) w.heap.size 36 [.int .i64 n1, .int .i64 i, .string l1, .slice p1 q1.length c1] := (Box.new w 36 [.int .i64 n1, .int .i64 i, .string l1, .slice p1 q1.length c1]).alloc _
  have hxb : Box ((w.alloc (.cells #[.int .i64 n1, .int .i64 i, .string l1, .slice p1 q1.length c1] 36)).alloc (.cells #[.int .i64 n2, .int .i64 i, .string l2, .slice p2 q2.length c2] 36)) (w.heap.size + 1) 36 [.int .i64 n2, .int .i64 i, .string l2, .slice p2 q2.length c2] := by
    have h := Box.new (w.alloc (.cells #[.int .i64 n1, .int .i64 i, .string l1, .slice p1 q1.length c1] 36)) 36 [.int .i64 n2, .int .i64 i, .string l2, .slice p2 q2.length c2]
    simpa using h
  have hk : Below w.heap.size w ((w.alloc (.cells #[.int .i64 n1, .int .i64 i, .string l1, .slice p1 q1.length c1] 36)).alloc (.cells #[.int .i64 n2, .int .i64 i, .string l2, .slice p2 q2.length c2] 36)) := ((Below.refl _ _).alloc (Nat.le_refl _) _).alloc (by simp) _
  have ha := fun w => ranswers_any n1 i l1 (.slice p1 q1.length c1) w
  have hb := fun w => ranswers_any n2 i l2 (.slice p2 q2.length c2) w
  rw [h1] at ha
  rw [h2] at hb
  have qa0 := hxa.cell 0
  have qa1 := hxa.cell 1
  have qa2 := hxa.cell 2
  have qa3 := hxa.cell 3
  go_enter Try.func41, Try.ntmps41
  go_wp2_with fail
  refine (ha _).mono ?_
  rintro e w1 ⟨rfl, hb1⟩
  clear qa0 qa1 qa2 qa3
  replace hxa := hxa.grow hb1 (by simp; omega)
  replace hxb := hxb.grow hb1 (by simp)
  replace hk := hk.trans (hb1.mono hk.size)
  have qb0 := hxb.cell 0
  have qb1 := hxb.cell 1
  have qb2 := hxb.cell 2
  have qb3 := hxb.cell 3
  clear hb1
  go_wp2_with fail
  refine (hb _).mono ?_
  rintro e w2 ⟨rfl, hb2⟩
  clear qb0 qb1 qb2 qb3
  replace hxa := hxa.grow hb2 hxa.lt
  replace hxb := hxb.grow hb2 hxb.lt
  replace hk := hk.trans (hb2.mono hk.size)
  clear hb2
  have qa0 := hxa.cell 0
  have qa1 := hxa.cell 1
  have qa2 := hxa.cell 2
  have qa3 := hxa.cell 3
  have qb0 := hxb.cell 0
  have qb1 := hxb.cell 1
  have qb2 := hxb.cell 2
  have qb3 := hxb.cell 3
  have hxa3 := hxa.alloc (.cells #[.slice none 0 0, .bool true] 94)
  have hxb3 := hxb.alloc (.cells #[.slice none 0 0, .bool true] 94)
  have qc0 := hxa3.cell 0
  have qc1 := hxa3.cell 1
  have qc2 := hxa3.cell 2
  have qc3 := hxa3.cell 3
  have hlb := hxb.lt
  have hla : w.heap.size < w2.heap.size := by omega
  have hB2 : Below w2.heap.size w2 (w2.alloc (.cells #[.slice none 0 0, .bool true] 94)) := (Below.refl _ _).alloc (Nat.le_refl _) _
  have hL1 := fleaf_any n1 w2.heap.size w2.heap.size w2 p1 c1 q1 l1 i n1 [] _ (Nat.le_refl _) (by omega) (by omega) (by omega) (by omega) (by simp; omega) hpc1 hcm1 (Nat.le_refl _) (hr1.grow hk (Nat.le_refl _)) hB2 (by simp) (fold_new w2)
  have hL2 := fun ts w' hl hB => fleaf_any n2 w2.heap.size w2.heap.size w2 p2 c2 q2 l2 i n2 ts w' (Nat.le_refl _) (by omega) (by omega) (by omega) (by omega) hl hpc2 hcm2 (Nat.le_refl _) (hr2.grow hk (Nat.le_refl _)) hB
  go_wp2_with fail
  refine hL1.mono ?_
  rintro e w4 hend
  obtain ⟨r1, ts1, rfl, hF1, hlen1, hb4, hd1⟩ := hend.one (fun t r h => (leafT_facts (by omega) h).2)
  clear hend hL1 qa0 qa1 qa2 qa3 qb0 qb1 qb2 qb3 qc0 qc1 qc2 qc3
  have hxa4 := (hxa3.grow hb4 hla).other (Nat.ne_of_lt hla) 1 (.bool true)
  have hxb4 := (hxb3.grow hb4 hlb).other (Nat.ne_of_lt hlb) 1 (.bool true)
  have hb5 := (hB2.trans hb4).setCell (p := ⟨w2.heap.size, 1, none⟩) (Nat.le_refl _) (.bool true)
  have hF2 := hF1.setOK true
  obtain ⟨g1, g2⟩ := hF1.cells
  have qb0 := hxb4.cell 0
  have qb1 := hxb4.cell 1
  have qb2 := hxb4.cell 2
  have qb3 := hxb4.cell 3
  have hlF := hF1.lt
  replace hL2 := hL2 ts1 _ (by simp at hlen1; omega) hb5 (by simp; omega) hF2
  clear hxa hxb hxa3 hxb3 hB2 hb4 hF1 hF2
  go_wp2_with fail
  refine hL2.mono ?_
  rintro e w5 hend
  obtain ⟨r2, ts2, rfl, hF2, hlen2, hb6, hd2⟩ := hend.one (fun t r h => (leafT_facts (by omega) h).2)
  have hb7 := hb5.trans hb6
  obtain ⟨u1, u2⟩ := hF2.cells
  clear hend hL2 qb0 qb1 qb2 qb3 g1 g2
  rw [hx1] at hd1
  rw [hx2] at hd2 u1 hF2
  obtain ⟨e1, e2⟩ := hd1.resolve_left (by simp)
  obtain ⟨e3, e4⟩ := hd2.resolve_left (by simp)
  simp only [Option.some.injEq, Prod.mk.injEq] at e1 e3
  obtain ⟨e5, rfl⟩ := e1
  obtain ⟨e6, rfl⟩ := e3
  have hT1 : ts1 = t1 := by rw [e5]; simp
  have HT : Hid (ts2 = t1 ++ t2) := by
    show _ = _
    rw [e4, ← e6, hT1]
  clear e2 e4 e5 e6 hT1 hd1 hd2
  have hz6 := (leafT_facts (by omega) hx1).1
  have hxa5 := hxa4.grow hb6 hla
  have hxb5 := hxb4.grow hb6 hlb
  have hq0 := hxa5.cell 0
  have hq2 := hxa5.cell 2
  have hs0 := hxb5.cell 0
  have hs2 := hxb5.cell 2
  have hBo := fboth_any n2 w2.heap.size w2.heap.size w2 p3 c3 q3 x n1 n2 true ts2 w5 (Nat.le_refl _) (by omega) (by omega) (by omega) hz6 (by simp at hlen1; omega) hpc3 hcm3 (Nat.le_refl _) (hr3.grow hk (Nat.le_refl _)) hb7 hb7.size hF2
  rw [hx3] at hBo
  go_wp2_with fail
  refine hBo.mono ?_
  rintro e w6 ⟨hb8, hend⟩
  have hb9 := hk.trans ((hb7.trans hb8).mono hk.size)
  have hxa6 := hxa5.grow hb8 hla
  have hxb6 := hxb5.grow hb8 hlb
  clear hBo hq0 hq2 hs0 hs2 u1 u2
  have hq2 := hxa6.cell 2
  have hs2 := hxb6.cell 2
  rcases hend with ⟨_, _, _, he, _⟩ | ⟨_, a, b, ts3, rfl, _, hF3⟩
  · cases he
  obtain ⟨v1, v2⟩ := hF3.cells
  clear hF3
  go_wp2_with fail
  refine bodyPost_ret (v := .tuple #[.string ⟨#[]⟩, .string ⟨#[]⟩, .int .i64 6]) (by simp [results, Try.results41, go_sem]) rfl ⟨rfl, hb9⟩

set_option maxRecDepth 100000 in
set_option maxHeartbeats 4000000 in
theorem rclash_both1 (n1 n2 i : Nat) (l1 : ByteArray) (p1 : Option Addr) (q1 : List ByteArray) (c1 : Nat) (l2 : ByteArray) (p2 : Option Addr) (q2 : List ByteArray) (c2 : Nat) (p3 : Option Addr) (q3 : List ByteArray) (c3 : Nat) (w : World)
    (h1 : Pl.ansB n1 i l1 = true) (h2 : Pl.ansB n2 i l2 = true) (h4 : (n1 : Int) ≤ n2) (hr1 : Row w p1 q1) (hr2 : Row w p2 q2) (hr3 : Row w p3 q3) (hpc1 : q1.length ≤ c1) (hcm1 : c1 ≤ 9223372036854775807) (hpc2 : q2.length ≤ c2) (hcm2 : c2 ≤ 9223372036854775807) (hpc3 : q3.length ≤ c3) (hcm3 : c3 ≤ 9223372036854775807) (t1 t2 : List ByteArray) (x y : ByteArray) (hx1 : Pl.leafT l1 i n1 q1 = some (t1, x)) (hx2 : Pl.leafT l2 i n2 q2 = some (t2, y)) (t3 : List ByteArray) (u v : ByteArray) (hx3 : Pl.bothT x n1 n2 true q3 = some (t3, u, v)) (hu : ¬ u = x) :
    Calls Try.prog 41 #[.agg #[.int .i64 n1, .int .i64 i, .string l1, .slice p1 q1.length c1], .agg #[.int .i64 n2, .int .i64 i, .string l2, .slice p2 q2.length c2], .slice p3 q3.length c3] w fun e w' => e = .returned (.tuple #[.string ⟨#[]⟩, .string ⟨#[]⟩, .int .i64 6]) ∧ Below w.heap.size w w' := by
  obtain ⟨hz1, hz2, hz3, hz4, hz5⟩ := (ansB_iff _ _ _).1 h1
  obtain ⟨hy1, hy2, hy3, hy4, hy5⟩ := (ansB_iff _ _ _).1 h2
  have hxa : Box ((w.alloc (.cells #[.int .i64 n1, .int .i64 i, .string l1, .slice p1 q1.length c1] 36)).alloc (.cells #[.int .i64 n2, .int .i64 i, .string l2, .slice p2 q2.length c2] 36)) w.heap.size 36 [.int .i64 n1, .int .i64 i, .string l1, .slice p1 q1.length c1] := (Box.new w 36 [.int .i64 n1, .int .i64 i, .string l1, .slice p1 q1.length c1]).alloc _
  have hxb : Box ((w.alloc (.cells #[.int .i64 n1, .int .i64 i, .string l1, .slice p1 q1.length c1] 36)).alloc (.cells #[.int .i64 n2, .int .i64 i, .string l2, .slice p2 q2.length c2] 36)) (w.heap.size + 1) 36 [.int .i64 n2, .int .i64 i, .string l2, .slice p2 q2.length c2] := by
    have h := Box.new (w.alloc (.cells #[.int .i64 n1, .int .i64 i, .string l1, .slice p1 q1.length c1] 36)) 36 [.int .i64 n2, .int .i64 i, .string l2, .slice p2 q2.length c2]
    simpa using h
  have hk : Below w.heap.size w ((w.alloc (.cells #[.int .i64 n1, .int .i64 i, .string l1, .slice p1 q1.length c1] 36)).alloc (.cells #[.int .i64 n2, .int .i64 i, .string l2, .slice p2 q2.length c2] 36)) := ((Below.refl _ _).alloc (Nat.le_refl _) _).alloc (by simp) _
  have ha := fun w => ranswers_any n1 i l1 (.slice p1 q1.length c1) w
  have hb := fun w => ranswers_any n2 i l2 (.slice p2 q2.length c2) w
  rw [h1] at ha
  rw [h2] at hb
  have qa0 := hxa.cell 0
  have qa1 := hxa.cell 1
  have qa2 := hxa.cell 2
  have qa3 := hxa.cell 3
  go_enter Try.func41, Try.ntmps41
  go_wp2_with fail
  refine (ha _).mono ?_
  rintro e w1 ⟨rfl, hb1⟩
  clear qa0 qa1 qa2 qa3
  replace hxa := hxa.grow hb1 (by simp; omega)
  replace hxb := hxb.grow hb1 (by simp)
  replace hk := hk.trans (hb1.mono hk.size)
  have qb0 := hxb.cell 0
  have qb1 := hxb.cell 1
  have qb2 := hxb.cell 2
  have qb3 := hxb.cell 3
  clear hb1
  go_wp2_with fail
  refine (hb _).mono ?_
  rintro e w2 ⟨rfl, hb2⟩
  clear qb0 qb1 qb2 qb3
  replace hxa := hxa.grow hb2 hxa.lt
  replace hxb := hxb.grow hb2 hxb.lt
  replace hk := hk.trans (hb2.mono hk.size)
  clear hb2
  have qa0 := hxa.cell 0
  have qa1 := hxa.cell 1
  have qa2 := hxa.cell 2
  have qa3 := hxa.cell 3
  have qb0 := hxb.cell 0
  have qb1 := hxb.cell 1
  have qb2 := hxb.cell 2
  have qb3 := hxb.cell 3
  have hxa3 := hxa.alloc (.cells #[.slice none 0 0, .bool true] 94)
  have hxb3 := hxb.alloc (.cells #[.slice none 0 0, .bool true] 94)
  have qc0 := hxa3.cell 0
  have qc1 := hxa3.cell 1
  have qc2 := hxa3.cell 2
  have qc3 := hxa3.cell 3
  have hlb := hxb.lt
  have hla : w.heap.size < w2.heap.size := by omega
  have hB2 : Below w2.heap.size w2 (w2.alloc (.cells #[.slice none 0 0, .bool true] 94)) := (Below.refl _ _).alloc (Nat.le_refl _) _
  have hL1 := fleaf_any n1 w2.heap.size w2.heap.size w2 p1 c1 q1 l1 i n1 [] _ (Nat.le_refl _) (by omega) (by omega) (by omega) (by omega) (by simp; omega) hpc1 hcm1 (Nat.le_refl _) (hr1.grow hk (Nat.le_refl _)) hB2 (by simp) (fold_new w2)
  have hL2 := fun ts w' hl hB => fleaf_any n2 w2.heap.size w2.heap.size w2 p2 c2 q2 l2 i n2 ts w' (Nat.le_refl _) (by omega) (by omega) (by omega) (by omega) hl hpc2 hcm2 (Nat.le_refl _) (hr2.grow hk (Nat.le_refl _)) hB
  go_wp2_with fail
  refine hL1.mono ?_
  rintro e w4 hend
  obtain ⟨r1, ts1, rfl, hF1, hlen1, hb4, hd1⟩ := hend.one (fun t r h => (leafT_facts (by omega) h).2)
  clear hend hL1 qa0 qa1 qa2 qa3 qb0 qb1 qb2 qb3 qc0 qc1 qc2 qc3
  have hxa4 := (hxa3.grow hb4 hla).other (Nat.ne_of_lt hla) 1 (.bool true)
  have hxb4 := (hxb3.grow hb4 hlb).other (Nat.ne_of_lt hlb) 1 (.bool true)
  have hb5 := (hB2.trans hb4).setCell (p := ⟨w2.heap.size, 1, none⟩) (Nat.le_refl _) (.bool true)
  have hF2 := hF1.setOK true
  obtain ⟨g1, g2⟩ := hF1.cells
  have qb0 := hxb4.cell 0
  have qb1 := hxb4.cell 1
  have qb2 := hxb4.cell 2
  have qb3 := hxb4.cell 3
  have hlF := hF1.lt
  replace hL2 := hL2 ts1 _ (by simp at hlen1; omega) hb5 (by simp; omega) hF2
  clear hxa hxb hxa3 hxb3 hB2 hb4 hF1 hF2
  go_wp2_with fail
  refine hL2.mono ?_
  rintro e w5 hend
  obtain ⟨r2, ts2, rfl, hF2, hlen2, hb6, hd2⟩ := hend.one (fun t r h => (leafT_facts (by omega) h).2)
  have hb7 := hb5.trans hb6
  obtain ⟨u1, u2⟩ := hF2.cells
  clear hend hL2 qb0 qb1 qb2 qb3 g1 g2
  rw [hx1] at hd1
  rw [hx2] at hd2 u1 hF2
  obtain ⟨e1, e2⟩ := hd1.resolve_left (by simp)
  obtain ⟨e3, e4⟩ := hd2.resolve_left (by simp)
  simp only [Option.some.injEq, Prod.mk.injEq] at e1 e3
  obtain ⟨e5, rfl⟩ := e1
  obtain ⟨e6, rfl⟩ := e3
  have hT1 : ts1 = t1 := by rw [e5]; simp
  have HT : Hid (ts2 = t1 ++ t2) := by
    show _ = _
    rw [e4, ← e6, hT1]
  clear e2 e4 e5 e6 hT1 hd1 hd2
  have hz6 := (leafT_facts (by omega) hx1).1
  have hxa5 := hxa4.grow hb6 hla
  have hxb5 := hxb4.grow hb6 hlb
  have hq0 := hxa5.cell 0
  have hq2 := hxa5.cell 2
  have hs0 := hxb5.cell 0
  have hs2 := hxb5.cell 2
  have hBo := fboth_any n2 w2.heap.size w2.heap.size w2 p3 c3 q3 x n1 n2 true ts2 w5 (Nat.le_refl _) (by omega) (by omega) (by omega) hz6 (by simp at hlen1; omega) hpc3 hcm3 (Nat.le_refl _) (hr3.grow hk (Nat.le_refl _)) hb7 hb7.size hF2
  rw [hx3] at hBo
  go_wp2_with fail
  refine hBo.mono ?_
  rintro e w6 ⟨hb8, hend⟩
  have hb9 := hk.trans ((hb7.trans hb8).mono hk.size)
  have hxa6 := hxa5.grow hb8 hla
  have hxb6 := hxb5.grow hb8 hlb
  clear hBo hq0 hq2 hs0 hs2 u1 u2
  have hq2 := hxa6.cell 2
  have hs2 := hxb6.cell 2
  have hne := str_ne hu
  rcases hend with ⟨t', u', v', he, rfl, hF3⟩ | ⟨he, _⟩
  · simp only [Option.some.injEq, Prod.mk.injEq] at he
    obtain ⟨rfl, rfl, rfl⟩ := he
    obtain ⟨v1, v2⟩ := hF3.cells
    clear hF3 hu
    go_wp2_with fail
    refine bodyPost_ret (v := .tuple #[.string ⟨#[]⟩, .string ⟨#[]⟩, .int .i64 6]) (by simp [results, Try.results41, go_sem]) rfl ⟨rfl, hb9⟩
  · cases he

set_option maxRecDepth 100000 in
set_option maxHeartbeats 4000000 in
theorem rclash_both2 (n1 n2 i : Nat) (l1 : ByteArray) (p1 : Option Addr) (q1 : List ByteArray) (c1 : Nat) (l2 : ByteArray) (p2 : Option Addr) (q2 : List ByteArray) (c2 : Nat) (p3 : Option Addr) (q3 : List ByteArray) (c3 : Nat) (w : World)
    (h1 : Pl.ansB n1 i l1 = true) (h2 : Pl.ansB n2 i l2 = true) (h4 : (n1 : Int) ≤ n2) (hr1 : Row w p1 q1) (hr2 : Row w p2 q2) (hr3 : Row w p3 q3) (hpc1 : q1.length ≤ c1) (hcm1 : c1 ≤ 9223372036854775807) (hpc2 : q2.length ≤ c2) (hcm2 : c2 ≤ 9223372036854775807) (hpc3 : q3.length ≤ c3) (hcm3 : c3 ≤ 9223372036854775807) (t1 t2 : List ByteArray) (x y : ByteArray) (hx1 : Pl.leafT l1 i n1 q1 = some (t1, x)) (hx2 : Pl.leafT l2 i n2 q2 = some (t2, y)) (t3 : List ByteArray) (v : ByteArray) (hx3 : Pl.bothT x n1 n2 true q3 = some (t3, x, v)) (hv : ¬ v = y) :
    Calls Try.prog 41 #[.agg #[.int .i64 n1, .int .i64 i, .string l1, .slice p1 q1.length c1], .agg #[.int .i64 n2, .int .i64 i, .string l2, .slice p2 q2.length c2], .slice p3 q3.length c3] w fun e w' => e = .returned (.tuple #[.string ⟨#[]⟩, .string ⟨#[]⟩, .int .i64 6]) ∧ Below w.heap.size w w' := by
  obtain ⟨hz1, hz2, hz3, hz4, hz5⟩ := (ansB_iff _ _ _).1 h1
  obtain ⟨hy1, hy2, hy3, hy4, hy5⟩ := (ansB_iff _ _ _).1 h2
  have hxa : Box ((w.alloc (.cells #[.int .i64 n1, .int .i64 i, .string l1, .slice p1 q1.length c1] 36)).alloc (.cells #[.int .i64 n2, .int .i64 i, .string l2, .slice p2 q2.length c2] 36)) w.heap.size 36 [.int .i64 n1, .int .i64 i, .string l1, .slice p1 q1.length c1] := (Box.new w 36 [.int .i64 n1, .int .i64 i, .string l1, .slice p1 q1.length c1]).alloc _
  have hxb : Box ((w.alloc (.cells #[.int .i64 n1, .int .i64 i, .string l1, .slice p1 q1.length c1] 36)).alloc (.cells #[.int .i64 n2, .int .i64 i, .string l2, .slice p2 q2.length c2] 36)) (w.heap.size + 1) 36 [.int .i64 n2, .int .i64 i, .string l2, .slice p2 q2.length c2] := by
    have h := Box.new (w.alloc (.cells #[.int .i64 n1, .int .i64 i, .string l1, .slice p1 q1.length c1] 36)) 36 [.int .i64 n2, .int .i64 i, .string l2, .slice p2 q2.length c2]
    simpa using h
  have hk : Below w.heap.size w ((w.alloc (.cells #[.int .i64 n1, .int .i64 i, .string l1, .slice p1 q1.length c1] 36)).alloc (.cells #[.int .i64 n2, .int .i64 i, .string l2, .slice p2 q2.length c2] 36)) := ((Below.refl _ _).alloc (Nat.le_refl _) _).alloc (by simp) _
  have ha := fun w => ranswers_any n1 i l1 (.slice p1 q1.length c1) w
  have hb := fun w => ranswers_any n2 i l2 (.slice p2 q2.length c2) w
  rw [h1] at ha
  rw [h2] at hb
  have qa0 := hxa.cell 0
  have qa1 := hxa.cell 1
  have qa2 := hxa.cell 2
  have qa3 := hxa.cell 3
  go_enter Try.func41, Try.ntmps41
  go_wp2_with fail
  refine (ha _).mono ?_
  rintro e w1 ⟨rfl, hb1⟩
  clear qa0 qa1 qa2 qa3
  replace hxa := hxa.grow hb1 (by simp; omega)
  replace hxb := hxb.grow hb1 (by simp)
  replace hk := hk.trans (hb1.mono hk.size)
  have qb0 := hxb.cell 0
  have qb1 := hxb.cell 1
  have qb2 := hxb.cell 2
  have qb3 := hxb.cell 3
  clear hb1
  go_wp2_with fail
  refine (hb _).mono ?_
  rintro e w2 ⟨rfl, hb2⟩
  clear qb0 qb1 qb2 qb3
  replace hxa := hxa.grow hb2 hxa.lt
  replace hxb := hxb.grow hb2 hxb.lt
  replace hk := hk.trans (hb2.mono hk.size)
  clear hb2
  have qa0 := hxa.cell 0
  have qa1 := hxa.cell 1
  have qa2 := hxa.cell 2
  have qa3 := hxa.cell 3
  have qb0 := hxb.cell 0
  have qb1 := hxb.cell 1
  have qb2 := hxb.cell 2
  have qb3 := hxb.cell 3
  have hxa3 := hxa.alloc (.cells #[.slice none 0 0, .bool true] 94)
  have hxb3 := hxb.alloc (.cells #[.slice none 0 0, .bool true] 94)
  have qc0 := hxa3.cell 0
  have qc1 := hxa3.cell 1
  have qc2 := hxa3.cell 2
  have qc3 := hxa3.cell 3
  have hlb := hxb.lt
  have hla : w.heap.size < w2.heap.size := by omega
  have hB2 : Below w2.heap.size w2 (w2.alloc (.cells #[.slice none 0 0, .bool true] 94)) := (Below.refl _ _).alloc (Nat.le_refl _) _
  have hL1 := fleaf_any n1 w2.heap.size w2.heap.size w2 p1 c1 q1 l1 i n1 [] _ (Nat.le_refl _) (by omega) (by omega) (by omega) (by omega) (by simp; omega) hpc1 hcm1 (Nat.le_refl _) (hr1.grow hk (Nat.le_refl _)) hB2 (by simp) (fold_new w2)
  have hL2 := fun ts w' hl hB => fleaf_any n2 w2.heap.size w2.heap.size w2 p2 c2 q2 l2 i n2 ts w' (Nat.le_refl _) (by omega) (by omega) (by omega) (by omega) hl hpc2 hcm2 (Nat.le_refl _) (hr2.grow hk (Nat.le_refl _)) hB
  go_wp2_with fail
  refine hL1.mono ?_
  rintro e w4 hend
  obtain ⟨r1, ts1, rfl, hF1, hlen1, hb4, hd1⟩ := hend.one (fun t r h => (leafT_facts (by omega) h).2)
  clear hend hL1 qa0 qa1 qa2 qa3 qb0 qb1 qb2 qb3 qc0 qc1 qc2 qc3
  have hxa4 := (hxa3.grow hb4 hla).other (Nat.ne_of_lt hla) 1 (.bool true)
  have hxb4 := (hxb3.grow hb4 hlb).other (Nat.ne_of_lt hlb) 1 (.bool true)
  have hb5 := (hB2.trans hb4).setCell (p := ⟨w2.heap.size, 1, none⟩) (Nat.le_refl _) (.bool true)
  have hF2 := hF1.setOK true
  obtain ⟨g1, g2⟩ := hF1.cells
  have qb0 := hxb4.cell 0
  have qb1 := hxb4.cell 1
  have qb2 := hxb4.cell 2
  have qb3 := hxb4.cell 3
  have hlF := hF1.lt
  replace hL2 := hL2 ts1 _ (by simp at hlen1; omega) hb5 (by simp; omega) hF2
  clear hxa hxb hxa3 hxb3 hB2 hb4 hF1 hF2
  go_wp2_with fail
  refine hL2.mono ?_
  rintro e w5 hend
  obtain ⟨r2, ts2, rfl, hF2, hlen2, hb6, hd2⟩ := hend.one (fun t r h => (leafT_facts (by omega) h).2)
  have hb7 := hb5.trans hb6
  obtain ⟨u1, u2⟩ := hF2.cells
  clear hend hL2 qb0 qb1 qb2 qb3 g1 g2
  rw [hx1] at hd1
  rw [hx2] at hd2 u1 hF2
  obtain ⟨e1, e2⟩ := hd1.resolve_left (by simp)
  obtain ⟨e3, e4⟩ := hd2.resolve_left (by simp)
  simp only [Option.some.injEq, Prod.mk.injEq] at e1 e3
  obtain ⟨e5, rfl⟩ := e1
  obtain ⟨e6, rfl⟩ := e3
  have hT1 : ts1 = t1 := by rw [e5]; simp
  have HT : Hid (ts2 = t1 ++ t2) := by
    show _ = _
    rw [e4, ← e6, hT1]
  clear e2 e4 e5 e6 hT1 hd1 hd2
  have hz6 := (leafT_facts (by omega) hx1).1
  have hxa5 := hxa4.grow hb6 hla
  have hxb5 := hxb4.grow hb6 hlb
  have hq0 := hxa5.cell 0
  have hq2 := hxa5.cell 2
  have hs0 := hxb5.cell 0
  have hs2 := hxb5.cell 2
  have hBo := fboth_any n2 w2.heap.size w2.heap.size w2 p3 c3 q3 x n1 n2 true ts2 w5 (Nat.le_refl _) (by omega) (by omega) (by omega) hz6 (by simp at hlen1; omega) hpc3 hcm3 (Nat.le_refl _) (hr3.grow hk (Nat.le_refl _)) hb7 hb7.size hF2
  rw [hx3] at hBo
  go_wp2_with fail
  refine hBo.mono ?_
  rintro e w6 ⟨hb8, hend⟩
  have hb9 := hk.trans ((hb7.trans hb8).mono hk.size)
  have hxa6 := hxa5.grow hb8 hla
  have hxb6 := hxb5.grow hb8 hlb
  clear hBo hq0 hq2 hs0 hs2 u1 u2
  have hq2 := hxa6.cell 2
  have hs2 := hxb6.cell 2
  have hne := str_ne hv
  rcases hend with ⟨t', u', v', he, rfl, hF3⟩ | ⟨he, _⟩
  · simp only [Option.some.injEq, Prod.mk.injEq] at he
    obtain ⟨rfl, rfl, rfl⟩ := he
    obtain ⟨v1, v2⟩ := hF3.cells
    clear hF3 hv
    go_wp2_with fail
    refine bodyPost_ret (v := .tuple #[.string ⟨#[]⟩, .string ⟨#[]⟩, .int .i64 6]) (by simp [results, Try.results41, go_sem]) rfl ⟨rfl, hb9⟩
  · cases he

end Go.Proofs.Ytkhnjipjbhcgdaa
