/-
  THE WALK of treeheadref.Clash: one leaf; the search.
-/
import Derived.Test.YtkhnjipjbhcgdaaRClash2
import Derived.Test.YtkhnjipjbhcgdaaTSums
namespace Go.Proofs.Ytkhnjipjbhcgdaa
open Go.RowKit Hp

theorem Pl.clashF_drop (T : List ByteArray) (a : Nat) (h : a < T.length) : Pl.clashF T (T.drop a) = match Pl.mate T T[a] with | some t => some (T[a], t) | none => Pl.clashF T (T.drop (a + 1)) := by
  rw [List.drop_eq_getElem_cons h]
  unfold Pl.clashF
  rw [List.findSome?_cons]
  cases Pl.mate T T[a] with
  | none => rfl
  | some t => rfl

set_option maxRecDepth 100000 in
set_option maxHeartbeats 4000000 in
theorem rclash_same (n1 n2 i : Nat) (l1 : ByteArray) (p1 : Option Addr) (q1 : List ByteArray) (c1 : Nat) (l2 : ByteArray) (p2 : Option Addr) (q2 : List ByteArray) (c2 : Nat) (p3 : Option Addr) (q3 : List ByteArray) (c3 : Nat) (w : World)
    (h1 : Pl.ansB n1 i l1 = true) (h2 : Pl.ansB n2 i l2 = true) (h4 : (n1 : Int) ≤ n2) (hr1 : Row w p1 q1) (hr2 : Row w p2 q2) (hr3 : Row w p3 q3) (hpc1 : q1.length ≤ c1) (hcm1 : c1 ≤ 9223372036854775807) (hpc2 : q2.length ≤ c2) (hcm2 : c2 ≤ 9223372036854775807) (hpc3 : q3.length ≤ c3) (hcm3 : c3 ≤ 9223372036854775807) (t1 t2 : List ByteArray) (x y : ByteArray) (hx1 : Pl.leafT l1 i n1 q1 = some (t1, x)) (hx2 : Pl.leafT l2 i n2 q2 = some (t2, y)) (t3 : List ByteArray) (hx3 : Pl.bothT x n1 n2 true q3 = some (t3, x, y)) (hl : l1 = l2) :
    Calls Try.prog 41 #[.agg #[.int .i64 n1, .int .i64 i, .string l1, .slice p1 q1.length c1], .agg #[.int .i64 n2, .int .i64 i, .string l2, .slice p2 q2.length c2], .slice p3 q3.length c3] w fun e w' => e = .returned (.tuple #[.string ⟨#[]⟩, .string ⟨#[]⟩, .int .i64 8]) ∧ Below w.heap.size w w' := by
  have HLL : Hid _ := hl
  clear hl
  obtain ⟨hz1, hz2, hz3, hz4, hz5⟩ := (ansB_iff _ _ _).1 h1
  obtain ⟨hy1, hy2, hy3, hy4, hy5⟩ := (ansB_iff _ _ _).1 h2
  have hxa : Box ((w.alloc (.cells #[.int .i64 n1, .int .i64 i, .string l1, .slice p1 q1.length c1] 36)).alloc (.cells #[.int .i64 n2, .int .i64 i, .string l2, .slice p2 q2.length c2] 36)) w.heap.size 36 [.int .i64 n1, .int .i64 i, .string l1, .slice p1 q1.length c1] := (Box.new w 36 [.int .i64 n1, .int .i64 i, .string l1, .slice p1 q1.length c1]).alloc _
  have hxb : Box ((w.alloc (.cells #[.int .i64 n1, .int .i64 i, .string l1, .slice p1 q1.length c1] 36)).alloc (.cells #[.int .i64 n2, .int .i64 i, .string l2, .slice p2 q2.length c2] 36)) (w.heap.size + 1) 36 [.int .i64 n2, .int .i64 i, .string l2, .slice p2 q2.length c2] := by
    have h := Box.new (w.alloc (.cells #[.int .i64 n1, .int .i64 i, .string l1, .slice p1 q1.length c1] 36)) 36 [.int .i64 n2, .int .i64 i, .string l2, .slice p2 q2.length c2]
    simpa using h
  have hk : Below w.heap.size w ((w.alloc (.cells #[.int .i64 n1, .int .i64 i, .string l1, .slice p1 q1.length c1] 36)).alloc (.cells #[.int .i64 n2, .int .i64 i, .string l2, .slice p2 q2.length c2] 36)) := ((Below.refl _ _).alloc (Nat.le_refl _) _).alloc (by simp) _
  have ha := fun w => ranswers_any n1 i l1 (.slice p1 q1.length c1) w
  have hb := fun w => ranswers_any n2 i l2 (.slice p2 q2.length c2) w
  rw [h1] at ha
  rw [h2] at hb
  have qa0 := hxa.cell 0
  have qa1 := hxa.cell 1
  have qa2 := hxa.cell 2
  have qa3 := hxa.cell 3
  go_enter Try.func41, Try.ntmps41
  go_wp2_with fail
  refine (ha _).mono ?_
  rintro e w1 ⟨rfl, hb1⟩
  clear qa0 qa1 qa2 qa3
  replace hxa := hxa.grow hb1 (by simp; omega)
  replace hxb := hxb.grow hb1 (by simp)
  replace hk := hk.trans (hb1.mono hk.size)
  have qb0 := hxb.cell 0
  have qb1 := hxb.cell 1
  have qb2 := hxb.cell 2
  have qb3 := hxb.cell 3
  clear hb1
  go_wp2_with fail
  refine (hb _).mono ?_
  rintro e w2 ⟨rfl, hb2⟩
  clear qb0 qb1 qb2 qb3
  replace hxa := hxa.grow hb2 hxa.lt
  replace hxb := hxb.grow hb2 hxb.lt
  replace hk := hk.trans (hb2.mono hk.size)
  clear hb2
  have qa0 := hxa.cell 0
  have qa1 := hxa.cell 1
  have qa2 := hxa.cell 2
  have qa3 := hxa.cell 3
  have qb0 := hxb.cell 0
  have qb1 := hxb.cell 1
  have qb2 := hxb.cell 2
  have qb3 := hxb.cell 3
  have hxa3 := hxa.alloc (.cells #[.slice none 0 0, .bool true] 94)
  have hxb3 := hxb.alloc (.cells #[.slice none 0 0, .bool true] 94)
  have qc0 := hxa3.cell 0
  have qc1 := hxa3.cell 1
  have qc2 := hxa3.cell 2
  have qc3 := hxa3.cell 3
  have hlb := hxb.lt
  have hla : w.heap.size < w2.heap.size := by omega
  have hB2 : Below w2.heap.size w2 (w2.alloc (.cells #[.slice none 0 0, .bool true] 94)) := (Below.refl _ _).alloc (Nat.le_refl _) _
  have hL1 := fleaf_any n1 w2.heap.size w2.heap.size w2 p1 c1 q1 l1 i n1 [] _ (Nat.le_refl _) (by omega) (by omega) (by omega) (by omega) (by simp; omega) hpc1 hcm1 (Nat.le_refl _) (hr1.grow hk (Nat.le_refl _)) hB2 (by simp) (fold_new w2)
  have hL2 := fun ts w' hl hB => fleaf_any n2 w2.heap.size w2.heap.size w2 p2 c2 q2 l2 i n2 ts w' (Nat.le_refl _) (by omega) (by omega) (by omega) (by omega) hl hpc2 hcm2 (Nat.le_refl _) (hr2.grow hk (Nat.le_refl _)) hB
  go_wp2_with fail
  refine hL1.mono ?_
  rintro e w4 hend
  obtain ⟨r1, ts1, rfl, hF1, hlen1, hb4, hd1⟩ := hend.one (fun t r h => (leafT_facts (by omega) h).2)
  clear hend hL1 qa0 qa1 qa2 qa3 qb0 qb1 qb2 qb3 qc0 qc1 qc2 qc3
  have hxa4 := (hxa3.grow hb4 hla).other (Nat.ne_of_lt hla) 1 (.bool true)
  have hxb4 := (hxb3.grow hb4 hlb).other (Nat.ne_of_lt hlb) 1 (.bool true)
  have hb5 := (hB2.trans hb4).setCell (p := ⟨w2.heap.size, 1, none⟩) (Nat.le_refl _) (.bool true)
  have hF2 := hF1.setOK true
  obtain ⟨g1, g2⟩ := hF1.cells
  have qb0 := hxb4.cell 0
  have qb1 := hxb4.cell 1
  have qb2 := hxb4.cell 2
  have qb3 := hxb4.cell 3
  have hlF := hF1.lt
  replace hL2 := hL2 ts1 _ (by simp at hlen1; omega) hb5 (by simp; omega) hF2
  clear hxa hxb hxa3 hxb3 hB2 hb4 hF1 hF2
  go_wp2_with fail
  refine hL2.mono ?_
  rintro e w5 hend
  obtain ⟨r2, ts2, rfl, hF2, hlen2, hb6, hd2⟩ := hend.one (fun t r h => (leafT_facts (by omega) h).2)
  have hb7 := hb5.trans hb6
  obtain ⟨u1, u2⟩ := hF2.cells
  clear hend hL2 qb0 qb1 qb2 qb3 g1 g2
  rw [hx1] at hd1
  rw [hx2] at hd2 u1 hF2
  obtain ⟨e1, e2⟩ := hd1.resolve_left (by simp)
  obtain ⟨e3, e4⟩ := hd2.resolve_left (by simp)
  simp only [Option.some.injEq, Prod.mk.injEq] at e1 e3
  obtain ⟨e5, rfl⟩ := e1
  obtain ⟨e6, rfl⟩ := e3
  have hT1 : ts1 = t1 := by rw [e5]; simp
  have HT : Hid (ts2 = t1 ++ t2) := by
    show _ = _
    rw [e4, ← e6, hT1]
  clear e2 e4 e5 e6 hT1 hd1 hd2
  have hz6 := (leafT_facts (by omega) hx1).1
  have hxa5 := hxa4.grow hb6 hla
  have hxb5 := hxb4.grow hb6 hlb
  have hq0 := hxa5.cell 0
  have hq2 := hxa5.cell 2
  have hs0 := hxb5.cell 0
  have hs2 := hxb5.cell 2
  have hBo := fboth_any n2 w2.heap.size w2.heap.size w2 p3 c3 q3 x n1 n2 true ts2 w5 (Nat.le_refl _) (by omega) (by omega) (by omega) hz6 (by simp at hlen1; omega) hpc3 hcm3 (Nat.le_refl _) (hr3.grow hk (Nat.le_refl _)) hb7 hb7.size hF2
  rw [hx3] at hBo
  go_wp2_with fail
  refine hBo.mono ?_
  rintro e w6 ⟨hb8, hend⟩
  have hb9 := hk.trans ((hb7.trans hb8).mono hk.size)
  have hxa6 := hxa5.grow hb8 hla
  have hxb6 := hxb5.grow hb8 hlb
  clear hBo hq0 hq2 hs0 hs2 u1 u2
  have hq2 := hxa6.cell 2
  have hs2 := hxb6.cell 2
  have hl := HLL.out
  subst hl
  rcases hend with ⟨t', u', v', he, rfl, hF3⟩ | ⟨he, _⟩
  · simp only [Option.some.injEq, Prod.mk.injEq] at he
    obtain ⟨rfl, rfl, rfl⟩ := he
    obtain ⟨v1, v2⟩ := hF3.cells
    clear hF3
    go_wp2_with fail
    refine bodyPost_ret (v := .tuple #[.string ⟨#[]⟩, .string ⟨#[]⟩, .int .i64 8]) (by simp [results, Try.results41, go_sem]) rfl ⟨rfl, hb9⟩
  · cases he

set_option maxRecDepth 100000 in
set_option maxHeartbeats 4000000 in
theorem rclash_find (n1 n2 i : Nat) (l1 : ByteArray) (p1 : Option Addr) (q1 : List ByteArray) (c1 : Nat) (l2 : ByteArray) (p2 : Option Addr) (q2 : List ByteArray) (c2 : Nat) (p3 : Option Addr) (q3 : List ByteArray) (c3 : Nat) (w : World)
    (h1 : Pl.ansB n1 i l1 = true) (h2 : Pl.ansB n2 i l2 = true) (h4 : (n1 : Int) ≤ n2) (hr1 : Row w p1 q1) (hr2 : Row w p2 q2) (hr3 : Row w p3 q3) (hpc1 : q1.length ≤ c1) (hcm1 : c1 ≤ 9223372036854775807) (hpc2 : q2.length ≤ c2) (hcm2 : c2 ≤ 9223372036854775807) (hpc3 : q3.length ≤ c3) (hcm3 : c3 ≤ 9223372036854775807) (t1 t2 : List ByteArray) (x y : ByteArray) (hx1 : Pl.leafT l1 i n1 q1 = some (t1, x)) (hx2 : Pl.leafT l2 i n2 q2 = some (t2, y)) (t3 : List ByteArray) (hx3 : Pl.bothT x n1 n2 true q3 = some (t3, x, y)) (hl : ¬ l1 = l2) (V : ByteArray × ByteArray × Int) (hVe : clashV l1 l2 (t1 ++ t2 ++ t3) = V) :
    Calls Try.prog 41 #[.agg #[.int .i64 n1, .int .i64 i, .string l1, .slice p1 q1.length c1], .agg #[.int .i64 n2, .int .i64 i, .string l2, .slice p2 q2.length c2], .slice p3 q3.length c3] w fun e w' => e = .returned (.tuple #[.string V.1, .string V.2.1, .int .i64 V.2.2]) ∧ Below w.heap.size w w' := by
  have HLL : Hid _ := hl
  have HVe : Hid _ := hVe
  clear hl hVe
  obtain ⟨hz1, hz2, hz3, hz4, hz5⟩ := (ansB_iff _ _ _).1 h1
  obtain ⟨hy1, hy2, hy3, hy4, hy5⟩ := (ansB_iff _ _ _).1 h2
  have hxa : Box ((w.alloc (.cells #[.int .i64 n1, .int .i64 i, .string l1, .slice p1 q1.length c1] 36)).alloc (.cells #[.int .i64 n2, .int .i64 i, .string l2, .slice p2 q2.length c2] 36)) w.heap.size 36 [.int .i64 n1, .int .i64 i, .string l1, .slice p1 q1.length c1] := (Box.new w 36 [.int .i64 n1, .int .i64 i, .string l1, .slice p1 q1.length c1]).alloc _
  have hxb : Box ((w.alloc (.cells #[.int .i64 n1, .int .i64 i, .string l1, .slice p1 q1.length c1] 36)).alloc (.cells #[.int .i64 n2, .int .i64 i, .string l2, .slice p2 q2.length c2] 36)) (w.heap.size + 1) 36 [.int .i64 n2, .int .i64 i, .string l2, .slice p2 q2.length c2] := by
    have h := Box.new (w.alloc (.cells #[.int .i64 n1, .int .i64 i, .string l1, .slice p1 q1.length c1] 36)) 36 [.int .i64 n2, .int .i64 i, .string l2, .slice p2 q2.length c2]
    simpa using h
  have hk : Below w.heap.size w ((w.alloc (.cells #[.int .i64 n1, .int .i64 i, .string l1, .slice p1 q1.length c1] 36)).alloc (.cells #[.int .i64 n2, .int .i64 i, .string l2, .slice p2 q2.length c2] 36)) := ((Below.refl _ _).alloc (Nat.le_refl _) _).alloc (by simp) _
  have ha := fun w => ranswers_any n1 i l1 (.slice p1 q1.length c1) w
  have hb := fun w => ranswers_any n2 i l2 (.slice p2 q2.length c2) w
  rw [h1] at ha
  rw [h2] at hb
  have qa0 := hxa.cell 0
  have qa1 := hxa.cell 1
  have qa2 := hxa.cell 2
  have qa3 := hxa.cell 3
  go_enter Try.func41, Try.ntmps41
  go_wp2_with fail
  refine (ha _).mono ?_
  rintro e w1 ⟨rfl, hb1⟩
  clear qa0 qa1 qa2 qa3
  replace hxa := hxa.grow hb1 (by simp; omega)
  replace hxb := hxb.grow hb1 (by simp)
  replace hk := hk.trans (hb1.mono hk.size)
  have qb0 := hxb.cell 0
  have qb1 := hxb.cell 1
  have qb2 := hxb.cell 2
  have qb3 := hxb.cell 3
  clear hb1
  go_wp2_with fail
  refine (hb _).mono ?_
  rintro e w2 ⟨rfl, hb2⟩
  clear qb0 qb1 qb2 qb3
  replace hxa := hxa.grow hb2 hxa.lt
  replace hxb := hxb.grow hb2 hxb.lt
  replace hk := hk.trans (hb2.mono hk.size)
  clear hb2
  have qa0 := hxa.cell 0
  have qa1 := hxa.cell 1
  have qa2 := hxa.cell 2
  have qa3 := hxa.cell 3
  have qb0 := hxb.cell 0
  have qb1 := hxb.cell 1
  have qb2 := hxb.cell 2
  have qb3 := hxb.cell 3
  have hxa3 := hxa.alloc (.cells #[.slice none 0 0, .bool true] 94)
  have hxb3 := hxb.alloc (.cells #[.slice none 0 0, .bool true] 94)
  have qc0 := hxa3.cell 0
  have qc1 := hxa3.cell 1
  have qc2 := hxa3.cell 2
  have qc3 := hxa3.cell 3
  have hlb := hxb.lt
  have hla : w.heap.size < w2.heap.size := by omega
  have hB2 : Below w2.heap.size w2 (w2.alloc (.cells #[.slice none 0 0, .bool true] 94)) := (Below.refl _ _).alloc (Nat.le_refl _) _
  have hL1 := fleaf_any n1 w2.heap.size w2.heap.size w2 p1 c1 q1 l1 i n1 [] _ (Nat.le_refl _) (by omega) (by omega) (by omega) (by omega) (by simp; omega) hpc1 hcm1 (Nat.le_refl _) (hr1.grow hk (Nat.le_refl _)) hB2 (by simp) (fold_new w2)
  have hL2 := fun ts w' hl hB => fleaf_any n2 w2.heap.size w2.heap.size w2 p2 c2 q2 l2 i n2 ts w' (Nat.le_refl _) (by omega) (by omega) (by omega) (by omega) hl hpc2 hcm2 (Nat.le_refl _) (hr2.grow hk (Nat.le_refl _)) hB
  go_wp2_with fail
  refine hL1.mono ?_
  rintro e w4 hend
  obtain ⟨r1, ts1, rfl, hF1, hlen1, hb4, hd1⟩ := hend.one (fun t r h => (leafT_facts (by omega) h).2)
  clear hend hL1 qa0 qa1 qa2 qa3 qb0 qb1 qb2 qb3 qc0 qc1 qc2 qc3
  have hxa4 := (hxa3.grow hb4 hla).other (Nat.ne_of_lt hla) 1 (.bool true)
  have hxb4 := (hxb3.grow hb4 hlb).other (Nat.ne_of_lt hlb) 1 (.bool true)
  have hb5 := (hB2.trans hb4).setCell (p := ⟨w2.heap.size, 1, none⟩) (Nat.le_refl _) (.bool true)
  have hF2 := hF1.setOK true
  obtain ⟨g1, g2⟩ := hF1.cells
  have qb0 := hxb4.cell 0
  have qb1 := hxb4.cell 1
  have qb2 := hxb4.cell 2
  have qb3 := hxb4.cell 3
  have hlF := hF1.lt
  replace hL2 := hL2 ts1 _ (by simp at hlen1; omega) hb5 (by simp; omega) hF2
  clear hxa hxb hxa3 hxb3 hB2 hb4 hF1 hF2
  go_wp2_with fail
  refine hL2.mono ?_
  rintro e w5 hend
  obtain ⟨r2, ts2, rfl, hF2, hlen2, hb6, hd2⟩ := hend.one (fun t r h => (leafT_facts (by omega) h).2)
  have hb7 := hb5.trans hb6
  obtain ⟨u1, u2⟩ := hF2.cells
  clear hend hL2 qb0 qb1 qb2 qb3 g1 g2
  rw [hx1] at hd1
  rw [hx2] at hd2 u1 hF2
  obtain ⟨e1, e2⟩ := hd1.resolve_left (by simp)
  obtain ⟨e3, e4⟩ := hd2.resolve_left (by simp)
  simp only [Option.some.injEq, Prod.mk.injEq] at e1 e3
  obtain ⟨e5, rfl⟩ := e1
  obtain ⟨e6, rfl⟩ := e3
  have hT1 : ts1 = t1 := by rw [e5]; simp
  have HT : Hid (ts2 = t1 ++ t2) := by
    show _ = _
    rw [e4, ← e6, hT1]
  clear e2 e4 e5 e6 hT1 hd1 hd2
  have hz6 := (leafT_facts (by omega) hx1).1
  have hxa5 := hxa4.grow hb6 hla
  have hxb5 := hxb4.grow hb6 hlb
  have hq0 := hxa5.cell 0
  have hq2 := hxa5.cell 2
  have hs0 := hxb5.cell 0
  have hs2 := hxb5.cell 2
  have hBo := fboth_any n2 w2.heap.size w2.heap.size w2 p3 c3 q3 x n1 n2 true ts2 w5 (Nat.le_refl _) (by omega) (by omega) (by omega) hz6 (by simp at hlen1; omega) hpc3 hcm3 (Nat.le_refl _) (hr3.grow hk (Nat.le_refl _)) hb7 hb7.size hF2
  rw [hx3] at hBo
  go_wp2_with fail
  refine hBo.mono ?_
  rintro e w6 ⟨hb8, hend⟩
  have hb9 := hk.trans ((hb7.trans hb8).mono hk.size)
  have hxa6 := hxa5.grow hb8 hla
  have hxb6 := hxb5.grow hb8 hlb
  clear hBo hq0 hq2 hs0 hs2 u1 u2
  have hq2 := hxa6.cell 2
  have hs2 := hxb6.cell 2
  rcases hend with ⟨t', u', v', he, rfl, hF3⟩ | ⟨he, _⟩
  · simp only [Option.some.injEq, Prod.mk.injEq] at he
    obtain ⟨rfl, rfl, rfl⟩ := he
    obtain ⟨v1, v2⟩ := hF3.cells
    have hTT : ts2 ++ t3 = t1 ++ t2 ++ t3 := by rw [HT.out]
    have hVV : V = (match Pl.clashF (ts2 ++ t3) (ts2 ++ t3) with | none => (⟨#[]⟩, ⟨#[]⟩, 8) | some (s, t) => (s, t, 0)) := by
      rw [← HVe.out]
      unfold clashV
      rw [if_neg HLL.out, hTT]
      cases Pl.clashF (t1 ++ t2 ++ t3) (t1 ++ t2 ++ t3) with
      | none => rfl
      | some z => rfl
    have hne := bytes_ne2 HLL.out
    have HV : Hid _ := hVV
    have hTne : ts2 ++ t3 ≠ [] := by
      rw [hTT]
      intro h0
      have := Pl.leafT_mem l1 n1 i q1 t1 _ (by omega) (by omega) hx1
      simp only [List.append_eq_nil_iff] at h0
      rw [h0.1.1] at this
      simp at this
    have hTs := hF3.size
    have hTl := hF3.short
    have hlF := hF3.lt
    obtain ⟨v, hg, ho⟩ := hF3.held
    obtain ⟨g, cap, rfl, _, hcap, hcm, hrow⟩ := ho.open hTne (fun s hs => Nat.le_trans (hTs s hs) (by decide)) (by unfold maxLen; omega)
    obtain ⟨cv0, cv1, _, _⟩ := cell_two hg
    rcases hrow.cell with h0 | ⟨b', o', he, hgl, hcell⟩
    · exact absurd h0 hTne
    simp only [Option.some.injEq, Addr.mk.injEq, and_true] at he
    obtain ⟨rfl, rfl⟩ := he
    have HCell : Hid _ := hcell
    have HTs : Hid _ := hTs
    clear hF3 hg ho hrow hcell hTne hTT hVV hTs HT HLL HVe hx1 hx2 hx3
    generalize ts2 ++ t3 = T at *
    have H0 : Hid (Pl.clashF T T = Pl.clashF T (T.drop 0)) := by show _ = _; rw [List.drop_zero]
    go_wp2_with fail
    go_loop [17] (fun i => ∃ a : Nat, a ≤ T.length ∧ i = .int .i64 a ∧ Hid (Pl.clashF T T = Pl.clashF T (T.drop a))) (fun i => T.length - (intOf i).toNat)
    case atStart => exact ⟨0, by omega, rfl, H0⟩
    case round =>
      obtain ⟨a, ha, rfl, HA⟩ := hrel
      by_cases hlt : a < T.length
      · have hca := HCell.out a hlt
        rw [Nat.zero_add] at hca
        have HD : Hid _ := Pl.clashF_drop T a hlt
        have HZa : Hid (T[a].size ≤ maxLen) := Nat.le_trans (HTs.out _ (List.getElem_mem hlt)) (by decide)
        generalize T[a] = s at *
        have HM0 : Hid (Pl.mate T s = Pl.mate (T.drop 0) s) := by show _ = _; rw [List.drop_zero]
        go_wp2_with fail
        go_loop [18] (fun i => ∃ b : Nat, b ≤ T.length ∧ i = .int .i64 b ∧ Hid (Pl.mate T s = Pl.mate (T.drop b) s)) (fun i => T.length - (intOf i).toNat)
        case atStart => exact ⟨0, by omega, rfl, HM0⟩
        case round =>
          obtain ⟨b, hb0, rfl, HM⟩ := hrel
          by_cases hlt2 : b < T.length
          · have hcb := HCell.out b hlt2
            rw [Nat.zero_add] at hcb
            have HMd : Hid _ := Pl.mate_drop T s b hlt2
            have HZb : Hid (T[b].size ≤ maxLen) := Nat.le_trans (HTs.out _ (List.getElem_mem hlt2)) (by decide)
            generalize T[b] = t at *
            by_cases hst : s = t
            · have HN : Hid (Pl.mate T s = Pl.mate (T.drop (b + 1)) s) := by
                show _ = _
                rw [HM.out, HMd.out, if_neg (fun h => h.1 hst)]
              subst hst
              go_wp2_with fail
              go_round
              case rel => exact ⟨b + 1, by omega, by go_num, HN⟩
              case measure => simp [intOf]; omega
            · have hsne := bytes_ne2 hst
              have HN1 : Hid _ := fun w => rnumber_any s w HZa.out
              have HN2 : Hid _ := fun w => rnumber_any t w HZb.out
              have hn1 := Pl.num_lt s.data.toList
              have hn2 := Pl.num_lt t.data.toList
              by_cases hnum : Pl.num s.data.toList = Pl.num t.data.toList
              · have HX : Hid (V = (s, t, 0)) := by
                  show _ = _
                  rw [HV.out, HA.out, HD.out, HM.out, HMd.out, if_pos ⟨hst, hnum⟩]
                rw [← hnum] at HN2
                generalize Pl.num s.data.toList = N at *
                go_wp2_with fail
                refine (HN1.out _).mono ?_
                rintro e w7 ⟨rfl, rfl⟩
                go_wp2_with fail
                refine (HN2.out _).mono ?_
                rintro e w8 ⟨rfl, rfl⟩
                go_wp2_with fail
                refine bodyPost_ret (v := .tuple #[.string s, .string t, .int .i64 0]) (by simp [results, Try.results41, go_sem]) rfl ⟨?_, hb9⟩
                rw [HX.out]
              · have HN : Hid (Pl.mate T s = Pl.mate (T.drop (b + 1)) s) := by
                  show _ = _
                  rw [HM.out, HMd.out, if_neg (fun h => hnum h.2)]
                generalize Pl.num s.data.toList = N1 at *
                generalize Pl.num t.data.toList = N2 at *
                have hnn : ¬ ((N1 : Int) = (N2 : Int)) := by omega
                go_wp2_with fail
                refine (HN1.out _).mono ?_
                rintro e w7 ⟨rfl, rfl⟩
                go_wp2_with fail
                refine (HN2.out _).mono ?_
                rintro e w8 ⟨rfl, rfl⟩
                go_wp2_with fail
                go_round
                case rel => exact ⟨b + 1, by omega, by go_num, HN⟩
                case measure => simp [intOf]; omega
          · have HX : Hid _ := Pl.mate_end T s b (by omega)
            have HN : Hid (Pl.clashF T T = Pl.clashF T (T.drop (a + 1))) := by
              show _ = _
              rw [HA.out, HD.out, HM.out, HX.out]
            go_wp2_with fail
            go_round
            case rel => exact ⟨a + 1, by omega, by go_num, HN⟩
            case measure => simp [intOf]; omega
      · have HX : Hid (V = (⟨#[]⟩, ⟨#[]⟩, 8)) := by
          show _ = _
          rw [HV.out, HA.out, List.drop_eq_nil_of_le (by omega)]
          rfl
        go_wp2_with fail
        refine bodyPost_ret (v := .tuple #[.string ⟨#[]⟩, .string ⟨#[]⟩, .int .i64 8]) (by simp [results, Try.results41, go_sem]) rfl ⟨?_, hb9⟩
        rw [HX.out]
  · cases he
end Go.Proofs.Ytkhnjipjbhcgdaa

namespace Go.Proofs.Ytkhnjipjbhcgdaa
open Go.RowKit Hp

theorem rclash_any (n1 i1 : Int) (l1 : ByteArray) (p1 : Option Addr) (q1 : List ByteArray) (c1 : Nat) (n2 i2 : Int) (l2 : ByteArray) (p2 : Option Addr) (q2 : List ByteArray) (c2 : Nat) (p3 : Option Addr) (q3 : List ByteArray) (c3 : Nat) (w : World)
    (hr1 : Row w p1 q1) (hr2 : Row w p2 q2) (hr3 : Row w p3 q3) (hpc1 : q1.length ≤ c1) (hcm1 : c1 ≤ 9223372036854775807) (hpc2 : q2.length ≤ c2) (hcm2 : c2 ≤ 9223372036854775807) (hpc3 : q3.length ≤ c3) (hcm3 : c3 ≤ 9223372036854775807) :
    Calls Try.prog 41 #[.agg #[.int .i64 n1, .int .i64 i1, .string l1, .slice p1 q1.length c1], .agg #[.int .i64 n2, .int .i64 i2, .string l2, .slice p2 q2.length c2], .slice p3 q3.length c3] w fun e w' => e = .returned (.tuple #[.string (clashA n1 i1 l1 q1 n2 i2 l2 q2 q3).1, .string (clashA n1 i1 l1 q1 n2 i2 l2 q2 q3).2.1, .int .i64 (clashA n1 i1 l1 q1 n2 i2 l2 q2 q3).2.2]) ∧ Below w.heap.size w w' := by
  by_cases h : Pl.ansB n1 i1 l1 = true ∧ Pl.ansB n2 i2 l2 = true ∧ i1 = i2 ∧ n1 ≤ n2
  · obtain ⟨h1, h2, h3, h4⟩ := h
    subst h3
    obtain ⟨a1, a2, a3, a4, a5⟩ := (ansB_iff _ _ _).1 h1
    obtain ⟨b1, b2, b3, b4, b5⟩ := (ansB_iff _ _ _).1 h2
    obtain ⟨m, rfl⟩ : ∃ m : Nat, n1 = (m : Int) := ⟨n1.toNat, by omega⟩
    obtain ⟨n, rfl⟩ : ∃ n : Nat, n2 = (n : Int) := ⟨n2.toNat, by omega⟩
    obtain ⟨i, rfl⟩ : ∃ i : Nat, i1 = (i : Int) := ⟨i1.toNat, by omega⟩
    have hA : clashA (m : Int) (i : Int) l1 q1 (n : Int) (i : Int) l2 q2 q3 = (match Pl.leafT l1 i m q1, Pl.leafT l2 i n q2 with
      | some (t1, x), some (t2, y) =>
        (match Pl.bothT x m n true q3 with
        | some (t3, u, v) => if u = x ∧ v = y then clashV l1 l2 (t1 ++ t2 ++ t3) else (⟨#[]⟩, ⟨#[]⟩, 6)
        | none => (⟨#[]⟩, ⟨#[]⟩, 6))
      | _, _ => (⟨#[]⟩, ⟨#[]⟩, 6)) := by
      unfold clashA
      rw [if_pos ⟨h1, h2, rfl, h4⟩]
      rfl
    cases hT1 : Pl.leafT l1 i m q1 with
    | none =>
      rw [hA, hT1]
      exact rclash_leaf1 m n i l1 p1 q1 c1 l2 p2 q2 c2 p3 q3 c3 w h1 h2 h4 hr1 hr2 hr3 hpc1 hcm1 hpc2 hcm2 hpc3 hcm3 hT1
    | some z =>
      obtain ⟨t1, x⟩ := z
      cases hT2 : Pl.leafT l2 i n q2 with
      | none =>
        rw [hA, hT1, hT2]
        exact rclash_leaf2 m n i l1 p1 q1 c1 l2 p2 q2 c2 p3 q3 c3 w h1 h2 h4 hr1 hr2 hr3 hpc1 hcm1 hpc2 hcm2 hpc3 hcm3 t1 x hT1 hT2
      | some z2 =>
        obtain ⟨t2, y⟩ := z2
        cases hT3 : Pl.bothT x m n true q3 with
        | none =>
          rw [hA, hT1, hT2]
          simp only [hT3]
          exact rclash_both0 m n i l1 p1 q1 c1 l2 p2 q2 c2 p3 q3 c3 w h1 h2 h4 hr1 hr2 hr3 hpc1 hcm1 hpc2 hcm2 hpc3 hcm3 t1 t2 x y hT1 hT2 hT3
        | some z3 =>
          obtain ⟨t3, u, v⟩ := z3
          by_cases hu : u = x
          · by_cases hv : v = y
            · subst hu hv
              have hAA : clashA (m : Int) (i : Int) l1 q1 (n : Int) (i : Int) l2 q2 q3 = clashV l1 l2 (t1 ++ t2 ++ t3) := by
                rw [hA, hT1, hT2]
                simp only [hT3, and_self, if_true]
              rw [hAA]
              by_cases hl : l1 = l2
              · unfold clashV
                rw [if_pos hl]
                exact rclash_same m n i l1 p1 q1 c1 l2 p2 q2 c2 p3 q3 c3 w h1 h2 h4 hr1 hr2 hr3 hpc1 hcm1 hpc2 hcm2 hpc3 hcm3 t1 t2 u v hT1 hT2 t3 hT3 hl
              · exact rclash_find m n i l1 p1 q1 c1 l2 p2 q2 c2 p3 q3 c3 w h1 h2 h4 hr1 hr2 hr3 hpc1 hcm1 hpc2 hcm2 hpc3 hcm3 t1 t2 u v hT1 hT2 t3 hT3 hl _ rfl
            · subst hu
              rw [hA, hT1, hT2]
              simp only [hT3, hv, and_false, if_false]
              exact rclash_both2 m n i l1 p1 q1 c1 l2 p2 q2 c2 p3 q3 c3 w h1 h2 h4 hr1 hr2 hr3 hpc1 hcm1 hpc2 hcm2 hpc3 hcm3 t1 t2 u y hT1 hT2 t3 v hT3 hv
          · rw [hA, hT1, hT2]
            simp only [hT3, hu, false_and, if_false]
            exact rclash_both1 m n i l1 p1 q1 c1 l2 p2 q2 c2 p3 q3 c3 w h1 h2 h4 hr1 hr2 hr3 hpc1 hcm1 hpc2 hcm2 hpc3 hcm3 t1 t2 x y hT1 hT2 t3 u v hT3 hu
  · have he : clashA n1 i1 l1 q1 n2 i2 l2 q2 q3 = (⟨#[]⟩, ⟨#[]⟩, 1) := if_neg h
    rw [he]
    cases h1 : Pl.ansB n1 i1 l1 with
    | false => exact rclash_arg1 n1 i1 l1 p1 q1.length c1 n2 i2 l2 p2 q2.length c2 p3 q3.length c3 w h1
    | true =>
      cases h2 : Pl.ansB n2 i2 l2 with
      | false => exact rclash_arg2 n1 i1 l1 p1 q1.length c1 n2 i2 l2 p2 q2.length c2 p3 q3.length c3 w h1 h2
      | true =>
        by_cases h3 : i1 = i2
        · by_cases h4 : n1 ≤ n2
          · exact absurd ⟨h1, h2, h3, h4⟩ h
          · exact rclash_arg4 n1 i1 l1 p1 q1.length c1 n2 i2 l2 p2 q2.length c2 p3 q3.length c3 w h1 h2 h3 (by omega)
        · exact rclash_arg3 n1 i1 l1 p1 q1.length c1 n2 i2 l2 p2 q2.length c2 p3 q3.length c3 w h1 h2 h3
end Go.Proofs.Ytkhnjipjbhcgdaa
