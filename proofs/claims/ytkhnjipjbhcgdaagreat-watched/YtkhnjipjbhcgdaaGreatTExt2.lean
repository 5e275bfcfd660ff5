import Derived.Test.YtkhnjipjbhcgdaaGreatTExt
import Derived.Test.YtkhnjipjbhcgdaaGreatTIncl2
/-
  THE WALK of treehead.Extended.
-/
namespace Go.Proofs.YtkhnjipjbhcgdaaGreat
open Go.RowKit Hp

set_option maxRecDepth 100000 in
set_option maxHeartbeats 4000000 in
theorem text_arg (os fs : Int) (a b : ByteArray) (p : Option Addr) (n cap : Nat) (w : World) (ha : a.size ≤ maxLen) (hb : b.size ≤ maxLen) (h : ¬ (Pl.isSumB a = true ∧ Pl.isSumB b = true ∧ 1 ≤ os ∧ os ≤ fs ∧ fs ≤ 40)) :
    Calls Tryz.prog 64 #[.agg #[.int .i64 os, .string a], .agg #[.int .i64 fs, .string b], .slice p n cap] w fun e w' => e = .returned (.int .i64 1) ∧ Below w.heap.size w w' := by
  have HA : Hid (∀ w, Calls Tryz.prog 76 #[.agg #[.int .i64 os, .string a]] w fun e w' => e = .returned (.bool (decide (0 ≤ os) && decide (os ≤ 40) && Pl.isSumB a)) ∧ Below w.heap.size w w') := fun w => tmayhead_any os a w ha
  have HB : Hid (∀ w, Calls Tryz.prog 76 #[.agg #[.int .i64 fs, .string b]] w fun e w' => e = .returned (.bool (decide (0 ≤ fs) && decide (fs ≤ 40) && Pl.isSumB b)) ∧ Below w.heap.size w w') := fun w => tmayhead_any fs b w hb
  have hB0 : Below w.heap.size w ((w.alloc (.cells #[.int .i64 os, .string a] 59)).alloc (.cells #[.int .i64 fs, .string b] 59)) := ((Below.refl _ _).alloc (Nat.le_refl _) _).alloc (by simp) _
  have hx0 : Box ((w.alloc (.cells #[.int .i64 os, .string a] 59)).alloc (.cells #[.int .i64 fs, .string b] 59)) w.heap.size 59 [.int .i64 os, .string a] := (Box.new w 59 [.int .i64 os, .string a]).alloc _
  have hy0 : Box ((w.alloc (.cells #[.int .i64 os, .string a] 59)).alloc (.cells #[.int .i64 fs, .string b] 59)) (w.heap.size + 1) 59 [.int .i64 fs, .string b] := by
    have := Box.new (w.alloc (.cells #[.int .i64 os, .string a] 59)) 59 [.int .i64 fs, .string b]
    rwa [show (w.alloc (.cells #[.int .i64 os, .string a] 59)).heap.size = w.heap.size + 1 by simp] at this
  cases hxa : (decide (0 ≤ os) && decide (os ≤ 40) && Pl.isSumB a) with
  | false =>
    rw [hxa] at HA
    clear h hxa
    go_enter Tryz.func64, Tryz.ntmps64
    go_wp2_with fail
    refine (HA.out _).mono ?_
    rintro e w1 ⟨rfl, hb1⟩
    go_wp2_with fail
    go_ret
    exact ⟨rfl, hB0.trans (hb1.mono hB0.size)⟩
  | true =>
    rw [hxa] at HA
    cases hxb : (decide (0 ≤ fs) && decide (fs ≤ 40) && Pl.isSumB b) with
    | false =>
      rw [hxb] at HB
      clear h hxa hxb
      go_enter Tryz.func64, Tryz.ntmps64
      go_wp2_with fail
      refine (HA.out _).mono ?_
      rintro e w1 ⟨rfl, hb1⟩
      have hk1 := hB0.trans (hb1.mono hB0.size)
      have hy1 := hy0.grow hb1 hy0.lt
      have c0 := hy1.cell 0
      have c1 := hy1.cell 1
      clear hb1
      go_wp2_with fail
      refine (HB.out _).mono ?_
      rintro e w2 ⟨rfl, hb2⟩
      go_wp2_with fail
      go_ret
      exact ⟨rfl, hk1.trans (hb2.mono hk1.size)⟩
    | true =>
      rw [hxb] at HB
      simp only [Bool.and_eq_true, decide_eq_true_iff] at hxa hxb
      have hor : os < 1 ∨ (1 ≤ os ∧ fs < os) := by
        by_cases h1 : 1 ≤ os
        · by_cases h2 : os ≤ fs
          · exact absurd ⟨hxa.2, hxb.2, h1, h2, hxb.1.2⟩ h
          · exact Or.inr ⟨h1, by omega⟩
        · exact Or.inl (by omega)
      clear h hxa hxb
      rcases hor with hor | ⟨hor1, hor⟩
      · go_enter Tryz.func64, Tryz.ntmps64
        go_wp2_with fail
        refine (HA.out _).mono ?_
        rintro e w1 ⟨rfl, hb1⟩
        have hk1 := hB0.trans (hb1.mono hB0.size)
        have hy1 := hy0.grow hb1 hy0.lt
        have hx1 := hx0.grow hb1 hx0.lt
        have c0 := hy1.cell 0
        have c1 := hy1.cell 1
        clear hb1
        go_wp2_with fail
        refine (HB.out _).mono ?_
        rintro e w2 ⟨rfl, hb2⟩
        have hx2 := hx1.grow hb2 hx1.lt
        have d0 := hx2.cell 0
        go_wp2_with fail
        go_ret
        exact ⟨rfl, hk1.trans (hb2.mono hk1.size)⟩
      · go_enter Tryz.func64, Tryz.ntmps64
        go_wp2_with fail
        refine (HA.out _).mono ?_
        rintro e w1 ⟨rfl, hb1⟩
        have hk1 := hB0.trans (hb1.mono hB0.size)
        have hy1 := hy0.grow hb1 hy0.lt
        have hx1 := hx0.grow hb1 hx0.lt
        have c0 := hy1.cell 0
        have c1 := hy1.cell 1
        clear hb1
        go_wp2_with fail
        refine (HB.out _).mono ?_
        rintro e w2 ⟨rfl, hb2⟩
        have hx2 := hx1.grow hb2 hx1.lt
        have hy2 := hy1.grow hb2 hy1.lt
        have d0 := hx2.cell 0
        have d1 := hy2.cell 0
        go_wp2_with fail
        go_ret
        exact ⟨rfl, hk1.trans (hb2.mono hk1.size)⟩

set_option maxRecDepth 100000 in
set_option maxHeartbeats 4000000 in
theorem tfoldheads_no (os fs : Nat) (a b : ByteArray) (p : Option Addr) (cap : Nat) (P : List ByteArray) (w : World) (h4 : a.size = 4) (h1 : 1 ≤ os) (h2 : os ≤ fs) (h40 : fs ≤ 40) (hPr : Row w p P) (hcap : P.length ≤ cap) (hT : Pl.bothT a os fs true P = none) :
    Calls Tryz.prog 77 #[.agg #[.int .i64 os, .string a], .agg #[.int .i64 fs, .string b], .slice p P.length cap] w fun e w' => e = .returned (.tuple #[.agg #[.slice none 0 0, .slice none 0 0], .bool false]) ∧ Below w.heap.size w w' := by
  have hx0 : Box (((w.alloc (.cells #[.int .i64 os, .string a] 59)).alloc (.cells #[.int .i64 fs, .string b] 59)).alloc (.cells #[.slice none 0 0, .slice none 0 0] 104)) w.heap.size 59 [.int .i64 os, .string a] := ((Box.new w 59 [.int .i64 os, .string a]).alloc _).alloc _
  have hy0 : Box (((w.alloc (.cells #[.int .i64 os, .string a] 59)).alloc (.cells #[.int .i64 fs, .string b] 59)).alloc (.cells #[.slice none 0 0, .slice none 0 0] 104)) (w.heap.size + 1) 59 [.int .i64 fs, .string b] := by
    have := (Box.new (w.alloc (.cells #[.int .i64 os, .string a] 59)) 59 [.int .i64 fs, .string b]).alloc (.cells #[.slice none 0 0, .slice none 0 0] 104)
    rwa [show (w.alloc (.cells #[.int .i64 os, .string a] 59)).heap.size = w.heap.size + 1 by simp] at this
  have hz0 : Box (((w.alloc (.cells #[.int .i64 os, .string a] 59)).alloc (.cells #[.int .i64 fs, .string b] 59)).alloc (.cells #[.slice none 0 0, .slice none 0 0] 104)) (w.heap.size + 2) 104 [.slice none 0 0, .slice none 0 0] := by
    have := Box.new ((w.alloc (.cells #[.int .i64 os, .string a] 59)).alloc (.cells #[.int .i64 fs, .string b] 59)) 104 [.slice none 0 0, .slice none 0 0]
    rwa [show ((w.alloc (.cells #[.int .i64 os, .string a] 59)).alloc (.cells #[.int .i64 fs, .string b] 59)).heap.size = w.heap.size + 2 by simp] at this
  have hk0 : Below w.heap.size w (((w.alloc (.cells #[.int .i64 os, .string a] 59)).alloc (.cells #[.int .i64 fs, .string b] 59)).alloc (.cells #[.slice none 0 0, .slice none 0 0] 104)) := (((Below.refl _ _).alloc (Nat.le_refl _) _).alloc (by simp) _).alloc (by simp; omega) _
  have hP0 := hPr.grow hk0 (Nat.le_refl _)
  have hsz : w.heap.size + 3 ≤ (((w.alloc (.cells #[.int .i64 os, .string a] 59)).alloc (.cells #[.int .i64 fs, .string b] 59)).alloc (.cells #[.slice none 0 0, .slice none 0 0] 104)).heap.size := by simp
  have c0 := hx0.cell 0
  have c1 := hx0.cell 1
  have c2 := hy0.cell 0
  have HF : Hid _ := tgrow_no a os fs P p cap _ h4 h1 h2 h40 hP0 hcap hT
  clear hx0 hP0 hT
  go_enter Tryz.func77, Tryz.ntmps77
  go_wp2_with fail
  refine Calls.mono HF.out ?_
  rintro e w1 ⟨rfl, hb1⟩
  have hz1 := (hz0.grow hb1 hz0.lt).alloc (.cells #[.slice none 0 0, .slice none 0 0] 104)
  have hk1 := hk0.trans (hb1.mono hk0.size)
  have hk2 := hk1.alloc hk1.size (.cells #[.slice none 0 0, .slice none 0 0] 104)
  have g0 := hz1.cell 0
  have g1 := hz1.cell 1
  have f0 := hz1.frozen 0
  have f1 := hz1.frozen 1
  have lR := hz1.lt
  clear hb1 HF
  go_wp2_with fail
  go_quiet (fail)
  go_wp2_with fail
  refine bodyPost_ret (v := .tuple #[.agg #[.slice none 0 0, .slice none 0 0], .bool false]) (by simp [results, Tryz.results77, go_sem, g0, g1]) rfl ⟨rfl, ?_⟩
  first | exact below_drewN ((hk2.setCell (by simp; omega) _).setCell (by simp; omega) _) _ | exact below_drewN (((hk1.setCell (by simp; omega) _).setCell (by simp; omega) _).alloc (by simp; exact hk1.size) _) _

set_option maxRecDepth 100000 in
set_option maxHeartbeats 4000000 in
theorem tfoldheads_one (os fs : Nat) (a b : ByteArray) (p : Option Addr) (cap : Nat) (P : List ByteArray) (w : World) (h4 : a.size = 4) (h1 : 1 ≤ os) (h2 : os ≤ fs) (h40 : fs ≤ 40) (hPr : Row w p P) (hcap : P.length ≤ cap) (t : List ByteArray) (c d : ByteArray) (hT : Pl.bothT a os fs true P = some (t, c, d)) (hne : ¬ c = a) :
    Calls Tryz.prog 77 #[.agg #[.int .i64 os, .string a], .agg #[.int .i64 fs, .string b], .slice p P.length cap] w fun e w' => e = .returned (.tuple #[.agg #[.slice none 0 0, .slice none 0 0], .bool false]) ∧ Below w.heap.size w w' := by
  have hx0 : Box (((w.alloc (.cells #[.int .i64 os, .string a] 59)).alloc (.cells #[.int .i64 fs, .string b] 59)).alloc (.cells #[.slice none 0 0, .slice none 0 0] 104)) w.heap.size 59 [.int .i64 os, .string a] := ((Box.new w 59 [.int .i64 os, .string a]).alloc _).alloc _
  have hy0 : Box (((w.alloc (.cells #[.int .i64 os, .string a] 59)).alloc (.cells #[.int .i64 fs, .string b] 59)).alloc (.cells #[.slice none 0 0, .slice none 0 0] 104)) (w.heap.size + 1) 59 [.int .i64 fs, .string b] := by
    have := (Box.new (w.alloc (.cells #[.int .i64 os, .string a] 59)) 59 [.int .i64 fs, .string b]).alloc (.cells #[.slice none 0 0, .slice none 0 0] 104)
    rwa [show (w.alloc (.cells #[.int .i64 os, .string a] 59)).heap.size = w.heap.size + 1 by simp] at this
  have hz0 : Box (((w.alloc (.cells #[.int .i64 os, .string a] 59)).alloc (.cells #[.int .i64 fs, .string b] 59)).alloc (.cells #[.slice none 0 0, .slice none 0 0] 104)) (w.heap.size + 2) 104 [.slice none 0 0, .slice none 0 0] := by
    have := Box.new ((w.alloc (.cells #[.int .i64 os, .string a] 59)).alloc (.cells #[.int .i64 fs, .string b] 59)) 104 [.slice none 0 0, .slice none 0 0]
    rwa [show ((w.alloc (.cells #[.int .i64 os, .string a] 59)).alloc (.cells #[.int .i64 fs, .string b] 59)).heap.size = w.heap.size + 2 by simp] at this
  have hk0 : Below w.heap.size w (((w.alloc (.cells #[.int .i64 os, .string a] 59)).alloc (.cells #[.int .i64 fs, .string b] 59)).alloc (.cells #[.slice none 0 0, .slice none 0 0] 104)) := (((Below.refl _ _).alloc (Nat.le_refl _) _).alloc (by simp) _).alloc (by simp; omega) _
  have hP0 := hPr.grow hk0 (Nat.le_refl _)
  have hsz : w.heap.size + 3 ≤ (((w.alloc (.cells #[.int .i64 os, .string a] 59)).alloc (.cells #[.int .i64 fs, .string b] 59)).alloc (.cells #[.slice none 0 0, .slice none 0 0] 104)).heap.size := by simp
  have c0 := hx0.cell 0
  have c1 := hx0.cell 1
  have c2 := hy0.cell 0
  have HF : Hid _ := tgrow_yes a os fs P p cap _ h4 h1 h2 h40 hP0 hcap t c d hT
  have hne2 := bytes_ne hne
  clear hP0 hT hne
  go_enter Tryz.func77, Tryz.ntmps77
  go_wp2_with fail
  refine Calls.mono HF.out ?_
  rintro e w1 ⟨R, v, rfl, hfo, hb1⟩
  have hz1 := (hz0.grow hb1 hz0.lt).alloc (.cells #[.slice (some ⟨R, 0, none⟩) 2 2, v] 104)
  have hk1 := hk0.trans (hb1.mono hk0.size)
  have hk2 := hk1.alloc hk1.size (.cells #[.slice (some ⟨R, 0, none⟩) 2 2, v] 104)
  have g0 := hz1.cell 0
  have g1 := hz1.cell 1
  have f0 := hz1.frozen 0
  have f1 := hz1.frozen 1
  have lR := hz1.lt
  obtain ⟨p6, c6, hv6⟩ := own_slice hfo.own
  subst hv6
  have hr1 := hfo.roots.alloc (.cells #[.slice (some ⟨R, 0, none⟩) 2 2, .slice p6 t.length c6] 104)
  have d0 := hr1.cell 0
  have d1 := hr1.cell 1
  have hx1 := (hx0.grow hb1 hx0.lt).alloc (.cells #[.slice (some ⟨R, 0, none⟩) 2 2, .slice p6 t.length c6] 104)
  have e1 := hx1.cell 1
  clear hb1 HF hfo hr1 hx1 hx0
  go_wp2_with fail
  go_quiet (fail)
  go_wp2_with fail
  refine bodyPost_ret (v := .tuple #[.agg #[.slice none 0 0, .slice none 0 0], .bool false]) (by simp [results, Tryz.results77, go_sem, g0, g1]) rfl ⟨rfl, ?_⟩
  first | exact below_drewN ((hk2.setCell (by simp; omega) _).setCell (by simp; omega) _) _ | exact below_drewN (((hk1.setCell (by simp; omega) _).setCell (by simp; omega) _).alloc (by simp; exact hk1.size) _) _

set_option maxRecDepth 100000 in
set_option maxHeartbeats 4000000 in
theorem tfoldheads_two (os fs : Nat) (a b : ByteArray) (p : Option Addr) (cap : Nat) (P : List ByteArray) (w : World) (h4 : a.size = 4) (h1 : 1 ≤ os) (h2 : os ≤ fs) (h40 : fs ≤ 40) (hPr : Row w p P) (hcap : P.length ≤ cap) (t : List ByteArray) (d : ByteArray) (hT : Pl.bothT a os fs true P = some (t, a, d)) (hne : ¬ d = b) :
    Calls Tryz.prog 77 #[.agg #[.int .i64 os, .string a], .agg #[.int .i64 fs, .string b], .slice p P.length cap] w fun e w' => e = .returned (.tuple #[.agg #[.slice none 0 0, .slice none 0 0], .bool false]) ∧ Below w.heap.size w w' := by
  have hx0 : Box (((w.alloc (.cells #[.int .i64 os, .string a] 59)).alloc (.cells #[.int .i64 fs, .string b] 59)).alloc (.cells #[.slice none 0 0, .slice none 0 0] 104)) w.heap.size 59 [.int .i64 os, .string a] := ((Box.new w 59 [.int .i64 os, .string a]).alloc _).alloc _
  have hy0 : Box (((w.alloc (.cells #[.int .i64 os, .string a] 59)).alloc (.cells #[.int .i64 fs, .string b] 59)).alloc (.cells #[.slice none 0 0, .slice none 0 0] 104)) (w.heap.size + 1) 59 [.int .i64 fs, .string b] := by
    have := (Box.new (w.alloc (.cells #[.int .i64 os, .string a] 59)) 59 [.int .i64 fs, .string b]).alloc (.cells #[.slice none 0 0, .slice none 0 0] 104)
    rwa [show (w.alloc (.cells #[.int .i64 os, .string a] 59)).heap.size = w.heap.size + 1 by simp] at this
  have hz0 : Box (((w.alloc (.cells #[.int .i64 os, .string a] 59)).alloc (.cells #[.int .i64 fs, .string b] 59)).alloc (.cells #[.slice none 0 0, .slice none 0 0] 104)) (w.heap.size + 2) 104 [.slice none 0 0, .slice none 0 0] := by
    have := Box.new ((w.alloc (.cells #[.int .i64 os, .string a] 59)).alloc (.cells #[.int .i64 fs, .string b] 59)) 104 [.slice none 0 0, .slice none 0 0]
    rwa [show ((w.alloc (.cells #[.int .i64 os, .string a] 59)).alloc (.cells #[.int .i64 fs, .string b] 59)).heap.size = w.heap.size + 2 by simp] at this
  have hk0 : Below w.heap.size w (((w.alloc (.cells #[.int .i64 os, .string a] 59)).alloc (.cells #[.int .i64 fs, .string b] 59)).alloc (.cells #[.slice none 0 0, .slice none 0 0] 104)) := (((Below.refl _ _).alloc (Nat.le_refl _) _).alloc (by simp) _).alloc (by simp; omega) _
  have hP0 := hPr.grow hk0 (Nat.le_refl _)
  have hsz : w.heap.size + 3 ≤ (((w.alloc (.cells #[.int .i64 os, .string a] 59)).alloc (.cells #[.int .i64 fs, .string b] 59)).alloc (.cells #[.slice none 0 0, .slice none 0 0] 104)).heap.size := by simp
  have c0 := hx0.cell 0
  have c1 := hx0.cell 1
  have c2 := hy0.cell 0
  have HF : Hid _ := tgrow_yes a os fs P p cap _ h4 h1 h2 h40 hP0 hcap t a d hT
  have hne2 := bytes_ne hne
  clear hP0 hT hne
  go_enter Tryz.func77, Tryz.ntmps77
  go_wp2_with fail
  refine Calls.mono HF.out ?_
  rintro e w1 ⟨R, v, rfl, hfo, hb1⟩
  have hz1 := (hz0.grow hb1 hz0.lt).alloc (.cells #[.slice (some ⟨R, 0, none⟩) 2 2, v] 104)
  have hk1 := hk0.trans (hb1.mono hk0.size)
  have hk2 := hk1.alloc hk1.size (.cells #[.slice (some ⟨R, 0, none⟩) 2 2, v] 104)
  have g0 := hz1.cell 0
  have g1 := hz1.cell 1
  have f0 := hz1.frozen 0
  have f1 := hz1.frozen 1
  have lR := hz1.lt
  obtain ⟨p6, c6, hv6⟩ := own_slice hfo.own
  subst hv6
  have hr1 := hfo.roots.alloc (.cells #[.slice (some ⟨R, 0, none⟩) 2 2, .slice p6 t.length c6] 104)
  have d0 := hr1.cell 0
  have d1 := hr1.cell 1
  have hx1 := (hx0.grow hb1 hx0.lt).alloc (.cells #[.slice (some ⟨R, 0, none⟩) 2 2, .slice p6 t.length c6] 104)
  have e1 := hx1.cell 1
  have hy1 := (hy0.grow hb1 hy0.lt).alloc (.cells #[.slice (some ⟨R, 0, none⟩) 2 2, .slice p6 t.length c6] 104)
  have e2 := hy1.cell 1
  clear hb1 HF hfo hr1 hx1 hx0 hy1
  go_wp2_with fail
  go_quiet (fail)
  go_wp2_with fail
  refine bodyPost_ret (v := .tuple #[.agg #[.slice none 0 0, .slice none 0 0], .bool false]) (by simp [results, Tryz.results77, go_sem, g0, g1]) rfl ⟨rfl, ?_⟩
  first | exact below_drewN ((hk2.setCell (by simp; omega) _).setCell (by simp; omega) _) _ | exact below_drewN (((hk1.setCell (by simp; omega) _).setCell (by simp; omega) _).alloc (by simp; exact hk1.size) _) _

set_option maxRecDepth 100000 in
set_option maxHeartbeats 4000000 in
theorem tfoldheads_yes (os fs : Nat) (a b : ByteArray) (p : Option Addr) (cap : Nat) (P : List ByteArray) (w : World) (h4 : a.size = 4) (h1 : 1 ≤ os) (h2 : os ≤ fs) (h40 : fs ≤ 40) (hPr : Row w p P) (hcap : P.length ≤ cap) (t : List ByteArray) (hT : Pl.bothT a os fs true P = some (t, a, b)) :
    Calls Tryz.prog 77 #[.agg #[.int .i64 os, .string a], .agg #[.int .i64 fs, .string b], .slice p P.length cap] w fun e w' => ∃ R v, e = .returned (.tuple #[.agg #[.slice (some ⟨R, 0, none⟩) 2 2, v], .bool true]) ∧ FoldOut w.heap.size R v [.string a, .string b] t w' ∧ Below w.heap.size w w' := by
  have hx0 : Box (((w.alloc (.cells #[.int .i64 os, .string a] 59)).alloc (.cells #[.int .i64 fs, .string b] 59)).alloc (.cells #[.slice none 0 0, .slice none 0 0] 104)) w.heap.size 59 [.int .i64 os, .string a] := ((Box.new w 59 [.int .i64 os, .string a]).alloc _).alloc _
  have hy0 : Box (((w.alloc (.cells #[.int .i64 os, .string a] 59)).alloc (.cells #[.int .i64 fs, .string b] 59)).alloc (.cells #[.slice none 0 0, .slice none 0 0] 104)) (w.heap.size + 1) 59 [.int .i64 fs, .string b] := by
    have := (Box.new (w.alloc (.cells #[.int .i64 os, .string a] 59)) 59 [.int .i64 fs, .string b]).alloc (.cells #[.slice none 0 0, .slice none 0 0] 104)
    rwa [show (w.alloc (.cells #[.int .i64 os, .string a] 59)).heap.size = w.heap.size + 1 by simp] at this
  have hz0 : Box (((w.alloc (.cells #[.int .i64 os, .string a] 59)).alloc (.cells #[.int .i64 fs, .string b] 59)).alloc (.cells #[.slice none 0 0, .slice none 0 0] 104)) (w.heap.size + 2) 104 [.slice none 0 0, .slice none 0 0] := by
    have := Box.new ((w.alloc (.cells #[.int .i64 os, .string a] 59)).alloc (.cells #[.int .i64 fs, .string b] 59)) 104 [.slice none 0 0, .slice none 0 0]
    rwa [show ((w.alloc (.cells #[.int .i64 os, .string a] 59)).alloc (.cells #[.int .i64 fs, .string b] 59)).heap.size = w.heap.size + 2 by simp] at this
  have hk0 : Below w.heap.size w (((w.alloc (.cells #[.int .i64 os, .string a] 59)).alloc (.cells #[.int .i64 fs, .string b] 59)).alloc (.cells #[.slice none 0 0, .slice none 0 0] 104)) := (((Below.refl _ _).alloc (Nat.le_refl _) _).alloc (by simp) _).alloc (by simp; omega) _
  have hP0 := hPr.grow hk0 (Nat.le_refl _)
  have hsz : w.heap.size + 3 ≤ (((w.alloc (.cells #[.int .i64 os, .string a] 59)).alloc (.cells #[.int .i64 fs, .string b] 59)).alloc (.cells #[.slice none 0 0, .slice none 0 0] 104)).heap.size := by simp
  have c0 := hx0.cell 0
  have c1 := hx0.cell 1
  have c2 := hy0.cell 0
  have HF : Hid _ := tgrow_yes a os fs P p cap _ h4 h1 h2 h40 hP0 hcap t a b hT
  clear hP0 hT
  go_enter Tryz.func77, Tryz.ntmps77
  go_wp2_with fail
  refine Calls.mono HF.out ?_
  rintro e w1 ⟨R, v, rfl, hfo, hb1⟩
  have hz1 := (hz0.grow hb1 hz0.lt).alloc (.cells #[.slice (some ⟨R, 0, none⟩) 2 2, v] 104)
  have hk1 := hk0.trans (hb1.mono hk0.size)
  have hk2 := hk1.alloc hk1.size (.cells #[.slice (some ⟨R, 0, none⟩) 2 2, v] 104)
  have g0 := hz1.cell 0
  have g1 := hz1.cell 1
  have f0 := hz1.frozen 0
  have f1 := hz1.frozen 1
  have lR := hz1.lt
  have HFO : Hid _ := hfo
  obtain ⟨p6, c6, hv6⟩ := own_slice hfo.own
  subst hv6
  have hr1 := hfo.roots.alloc (.cells #[.slice (some ⟨R, 0, none⟩) 2 2, .slice p6 t.length c6] 104)
  have d0 := hr1.cell 0
  have d1 := hr1.cell 1
  have hx1 := (hx0.grow hb1 hx0.lt).alloc (.cells #[.slice (some ⟨R, 0, none⟩) 2 2, .slice p6 t.length c6] 104)
  have e1 := hx1.cell 1
  have hy1 := (hy0.grow hb1 hy0.lt).alloc (.cells #[.slice (some ⟨R, 0, none⟩) 2 2, .slice p6 t.length c6] 104)
  have e2 := hy1.cell 1
  clear hb1 HF hfo hr1 hx1 hx0 hy1
  go_wp2_with fail
  go_quiet (fail)
  go_wp2_with fail
  refine bodyPost_ret (v := .tuple #[.agg #[.slice (some ⟨R, 0, none⟩) 2 2, .slice p6 t.length c6], .bool true]) (by simp [results, Tryz.results77, go_sem, g0, g1]) rfl ⟨R, _, rfl, ?_, ?_⟩
  · have h1 := (HFO.out.grow ((Below.refl _ _).alloc (Nat.le_refl _) (.cells #[.slice (some ⟨R, 0, none⟩) 2 2, .slice p6 t.length c6] 104))).grow (below_drewN (Below.refl _ _) nq)
    exact ((h1.other (by omega) _ _).other (by omega) _ _).weak (by omega)
  · first | exact below_drewN ((hk2.setCell (by simp; omega) _).setCell (by simp; omega) _) _ | exact below_drewN (((hk1.setCell (by simp; omega) _).setCell (by simp; omega) _).alloc (by simp; exact hk1.size) _) _

set_option maxRecDepth 100000 in
set_option maxHeartbeats 4000000 in
theorem text_fold (os fs : Nat) (a b : ByteArray) (p : Option Addr) (cap : Nat) (P : List ByteArray) (w : World) (h1 : Pl.isSumB a = true) (h2 : Pl.isSumB b = true) (h3 : 1 ≤ os) (h4 : os ≤ fs) (h5 : fs ≤ 40) (hPr : Row w p P) (k : Bool) (x : Int) (hx : x = if k = true then 0 else 6)
    (HG : Hid (∀ w, Row w p P → Calls Tryz.prog 77 #[.agg #[.int .i64 os, .string a], .agg #[.int .i64 fs, .string b], .slice p P.length cap] w fun e w' => ∃ u1 u2 u3 v1 v2 v3, e = .returned (.tuple #[.agg #[.slice u1 u2 u3, .slice v1 v2 v3], .bool k]) ∧ Below w.heap.size w w')) :
    Calls Tryz.prog 64 #[.agg #[.int .i64 os, .string a], .agg #[.int .i64 fs, .string b], .slice p P.length cap] w fun e w' => e = .returned (.int .i64 x) ∧ Below w.heap.size w w' := by
  have ha4 := isSumB_size h1
  have hb4 := isSumB_size h2
  have HA : Hid (∀ w, Calls Tryz.prog 76 #[.agg #[.int .i64 os, .string a]] w fun e w' => e = .returned (.bool true) ∧ Below w.heap.size w w') := fun w => by
    have := tmayhead_any os a w (by rw [ha4]; decide)
    rwa [h1, decide_eq_true (show (0 : Int) ≤ (os : Int) by omega), decide_eq_true (show (os : Int) ≤ 40 by omega)] at this
  have HB : Hid (∀ w, Calls Tryz.prog 76 #[.agg #[.int .i64 fs, .string b]] w fun e w' => e = .returned (.bool true) ∧ Below w.heap.size w w') := fun w => by
    have := tmayhead_any fs b w (by rw [hb4]; decide)
    rwa [h2, decide_eq_true (show (0 : Int) ≤ (fs : Int) by omega), decide_eq_true (show (fs : Int) ≤ 40 by omega)] at this
  have hB0 : Below w.heap.size w ((w.alloc (.cells #[.int .i64 os, .string a] 59)).alloc (.cells #[.int .i64 fs, .string b] 59)) := ((Below.refl _ _).alloc (Nat.le_refl _) _).alloc (by simp) _
  have hx0 : Box ((w.alloc (.cells #[.int .i64 os, .string a] 59)).alloc (.cells #[.int .i64 fs, .string b] 59)) w.heap.size 59 [.int .i64 os, .string a] := (Box.new w 59 [.int .i64 os, .string a]).alloc _
  have hy0 : Box ((w.alloc (.cells #[.int .i64 os, .string a] 59)).alloc (.cells #[.int .i64 fs, .string b] 59)) (w.heap.size + 1) 59 [.int .i64 fs, .string b] := by
    have := Box.new (w.alloc (.cells #[.int .i64 os, .string a] 59)) 59 [.int .i64 fs, .string b]
    rwa [show (w.alloc (.cells #[.int .i64 os, .string a] 59)).heap.size = w.heap.size + 1 by simp] at this
  have HPr : Hid _ := hPr
  have HE : Hid _ := hx
  clear hPr h1 h2 hx
  cases k with
  | false =>
    go_enter Tryz.func64, Tryz.ntmps64
    go_wp2_with fail
    refine (HA.out _).mono ?_
    rintro e w1 ⟨rfl, hb1⟩
    have hk1 := hB0.trans (hb1.mono hB0.size)
    have hy1 := hy0.grow hb1 hy0.lt
    have hx1 := hx0.grow hb1 hx0.lt
    have c0 := hy1.cell 0
    have c1 := hy1.cell 1
    clear hb1
    go_wp2_with fail
    refine (HB.out _).mono ?_
    rintro e w2 ⟨rfl, hb2⟩
    have hk2 := hk1.trans (hb2.mono hk1.size)
    have hx2 := hx1.grow hb2 hx1.lt
    have hy2 := hy1.grow hb2 hy1.lt
    have d0 := hx2.cell 0
    have d1 := hx2.cell 1
    have d2 := hy2.cell 0
    have d3 := hy2.cell 1
    clear hb2 hx0 hy0 hB0 hx1 hy1 c0 c1
    go_wp2_with fail
    refine (HG.out _ (HPr.out.grow hk2 (Nat.le_refl _))).mono ?_
    rintro e w3 ⟨u1, u2, u3, v1, v2, v3, rfl, hb3⟩
    have hk3 := hk2.trans (hb3.mono hk2.size)
    clear hb3 hx2 hy2 HA HB HG HPr
    go_wp2_with fail
    go_ret
    exact ⟨ret_int HE.out.symm, hk3.alloc hk3.size _⟩
  | true =>
    go_enter Tryz.func64, Tryz.ntmps64
    go_wp2_with fail
    refine (HA.out _).mono ?_
    rintro e w1 ⟨rfl, hb1⟩
    have hk1 := hB0.trans (hb1.mono hB0.size)
    have hy1 := hy0.grow hb1 hy0.lt
    have hx1 := hx0.grow hb1 hx0.lt
    have c0 := hy1.cell 0
    have c1 := hy1.cell 1
    clear hb1
    go_wp2_with fail
    refine (HB.out _).mono ?_
    rintro e w2 ⟨rfl, hb2⟩
    have hk2 := hk1.trans (hb2.mono hk1.size)
    have hx2 := hx1.grow hb2 hx1.lt
    have hy2 := hy1.grow hb2 hy1.lt
    have d0 := hx2.cell 0
    have d1 := hx2.cell 1
    have d2 := hy2.cell 0
    have d3 := hy2.cell 1
    clear hb2 hx0 hy0 hB0 hx1 hy1 c0 c1
    go_wp2_with fail
    refine (HG.out _ (HPr.out.grow hk2 (Nat.le_refl _))).mono ?_
    rintro e w3 ⟨u1, u2, u3, v1, v2, v3, rfl, hb3⟩
    have hk3 := hk2.trans (hb3.mono hk2.size)
    clear hb3 hx2 hy2 HA HB HG HPr
    go_wp2_with fail
    go_ret
    exact ⟨ret_int HE.out.symm, hk3.alloc hk3.size _⟩

theorem text_any (os fs : Int) (a b : ByteArray) (p : Option Addr) (cap : Nat) (P : List ByteArray) (w : World) (ha : a.size ≤ maxLen) (hb : b.size ≤ maxLen) (hPr : Row w p P) (hcap : P.length ≤ cap) :
    Calls Tryz.prog 64 #[.agg #[.int .i64 os, .string a], .agg #[.int .i64 fs, .string b], .slice p P.length cap] w fun e w' => e = .returned (.int .i64 (extA os a fs b P)) ∧ Below w.heap.size w w' := by
  by_cases h : Pl.isSumB a = true ∧ Pl.isSumB b = true ∧ 1 ≤ os ∧ os ≤ fs ∧ fs ≤ 40
  · obtain ⟨h1, h2, h3, h4, h5⟩ := h
    obtain ⟨m, rfl⟩ : ∃ m : Nat, os = (m : Int) := ⟨os.toNat, by omega⟩
    obtain ⟨n, rfl⟩ : ∃ n : Nat, fs = (n : Int) := ⟨fs.toNat, by omega⟩
    have he : extA (m : Int) a (n : Int) b P = (match Pl.bothT a m n true P with | none => 6 | some (_, x, y) => if x = a ∧ y = b then 0 else 6) := by
      unfold extA
      rw [if_pos ⟨h1, h2, h3, h4, h5⟩, Int.toNat_natCast, Int.toNat_natCast]
      cases Pl.bothT a m n true P with
      | none => rfl
      | some x => rfl
    rw [he]
    have h4' := isSumB_size h1
    cases hT : Pl.bothT a m n true P with
    | none => exact text_fold m n a b p cap P w h1 h2 (by omega) (by omega) (by omega) hPr false _ rfl (fun w hr => (tfoldheads_no m n a b p cap P w h4' (by omega) (by omega) (by omega) hr hcap hT).mono fun e w' ⟨he, hb⟩ => ⟨_, _, _, _, _, _, he, hb⟩)
    | some x =>
      obtain ⟨t, c, d⟩ := x
      by_cases hc : c = a
      · subst hc
        by_cases hd : d = b
        · subst hd
          exact text_fold m n c d p cap P w h1 h2 (by omega) (by omega) (by omega) hPr true _ (by simp) (fun w hr => (tfoldheads_yes m n c d p cap P w h4' (by omega) (by omega) (by omega) hr hcap t hT).mono fun e w' ⟨R, v, he, hfo, hb⟩ => by
            obtain ⟨p6, c6, rfl⟩ := own_slice hfo.own
            exact ⟨_, _, _, _, _, _, he, hb⟩)
        · exact text_fold m n c b p cap P w h1 h2 (by omega) (by omega) (by omega) hPr false _ (by simp [hd]) (fun w hr => (tfoldheads_two m n c b p cap P w h4' (by omega) (by omega) (by omega) hr hcap t d hT hd).mono fun e w' ⟨he, hb⟩ => ⟨_, _, _, _, _, _, he, hb⟩)
      · exact text_fold m n a b p cap P w h1 h2 (by omega) (by omega) (by omega) hPr false _ (by simp [hc]) (fun w hr => (tfoldheads_one m n a b p cap P w h4' (by omega) (by omega) (by omega) hr hcap t c d hT hc).mono fun e w' ⟨he, hb⟩ => ⟨_, _, _, _, _, _, he, hb⟩)
  · have he : extA os a fs b P = 1 := if_neg h
    rw [he]
    exact text_arg os fs a b p P.length cap w ha hb h

end Go.Proofs.YtkhnjipjbhcgdaaGreat
