import Derived.Test.YtkhnjipjbhcgdaaGreatRSign2
import Derived.BigRegion
/-
  THE WALKS of treeheadref.Signed, right, Open.
-/
namespace Go.Proofs.YtkhnjipjbhcgdaaGreat
open Go.RowKit

set_option maxRecDepth 100000 in
set_option maxHeartbeats 1000000 in
theorem rsigned_no (b : ByteArray) (w : World) (hb : ¬ b.size = 11) :
    Calls Tryz.prog 65 #[.string b] w fun e w' => e = .returned (.tuple #[.agg #[.int .i64 0, .string ⟨#[]⟩], .int .i64 0, .int .i64 0, .bool false]) ∧ Below w.heap.size w w' := by
  have hne : ((b.size : Int) != 11) = true := by rw [bne_iff_ne]; omega
  go_enter Tryz.func65, Tryz.ntmps65
  go_wp2
  refine bodyPost_ret (v := .tuple #[.agg #[.int .i64 0, .string ⟨#[]⟩], .int .i64 0, .int .i64 0, .bool false]) (by simp [results, Tryz.results65, go_sem]) rfl ⟨rfl, ?_⟩
  exact (Below.refl _ _).alloc (Nat.le_refl _) _

/-- Two boxes of two cells, one behind the other, and some draws. -/
theorem two_boxes (w : World) (a b c d : Value) (t : TypeId) (n : Nat) {W : World} (hW : ((w.alloc (.cells #[a, b] t)).alloc (.cells #[c, d] t)).drewN n = W) :
    Below w.heap.size w W ∧ W.cell? ⟨w.heap.size, 0, none⟩ = some a ∧ W.cell? ⟨w.heap.size, 1, none⟩ = some b ∧ W.cell? ⟨w.heap.size + 1, 0, none⟩ = some c ∧ W.cell? ⟨w.heap.size + 1, 1, none⟩ = some d ∧ W.frozen? ⟨w.heap.size, 0, none⟩ = false ∧ W.frozen? ⟨w.heap.size, 1, none⟩ = false := by
  subst hW
  refine ⟨below_drewN (((Below.refl _ _).alloc (Nat.le_refl _) _).alloc (by simp) _) n, ?_, ?_, ?_, ?_, ?_, ?_⟩
  · show ((w.alloc (.cells #[a, b] t)).alloc (.cells #[c, d] t)).cell? ⟨w.heap.size, 0, none⟩ = some a
    rw [World.cell?_alloc_past _ _ _ (by simp), World.cell?_alloc_mark]
    rfl
  · show ((w.alloc (.cells #[a, b] t)).alloc (.cells #[c, d] t)).cell? ⟨w.heap.size, 1, none⟩ = some b
    rw [World.cell?_alloc_past _ _ _ (by simp), World.cell?_alloc_mark]
    rfl
  · show ((w.alloc (.cells #[a, b] t)).alloc (.cells #[c, d] t)).cell? ⟨w.heap.size + 1, 0, none⟩ = some c
    simp
  · show ((w.alloc (.cells #[a, b] t)).alloc (.cells #[c, d] t)).cell? ⟨w.heap.size + 1, 1, none⟩ = some d
    simp
  · show ((w.alloc (.cells #[a, b] t)).alloc (.cells #[c, d] t)).frozen? ⟨w.heap.size, 0, none⟩ = false
    simp
  · show ((w.alloc (.cells #[a, b] t)).alloc (.cells #[c, d] t)).frozen? ⟨w.heap.size, 1, none⟩ = false
    simp

set_option maxRecDepth 100000 in
set_option maxHeartbeats 4000000 in
theorem rsigned_yes (b : ByteArray) (w : World) (hb : b.size = 11) :
    Calls Tryz.prog 65 #[.string b] w fun e w' => e = .returned (.tuple #[.agg #[.int .i64 (Pl.hSize b : Nat), .string (Pl.hRoot b)], .int .i64 (Pl.hC b : Nat), .int .i64 (Pl.hS b : Nat), .bool (Pl.headB b)]) ∧ Below w.heap.size w w' := by
  have hne : ((b.size : Int) != 11) = false := by rw [hb]; rfl
  have e0 := Pl.byt_eq b 0 (by omega)
  have e1 := Pl.byt_eq b 1 (by omega)
  have e2 := Pl.byt_eq b 2 (by omega)
  have e7 := Pl.byt_eq b 7 (by omega)
  have e8 := Pl.byt_eq b 8 (by omega)
  have e9 := Pl.byt_eq b 9 (by omega)
  have e10 := Pl.byt_eq b 10 (by omega)
  have b0 := Pl.byt_lt b 0
  have b1 := Pl.byt_lt b 1
  have b2 := Pl.byt_lt b 2
  have b7 := Pl.byt_lt b 7
  have b8 := Pl.byt_lt b 8
  have b9 := Pl.byt_lt b 9
  have b10 := Pl.byt_lt b 10
  have HS : Hid (Pl.hSize b = Pl.byt b 1 + 256 * Pl.byt b 2) := rfl
  have HC : Hid (Pl.hC b = Pl.byt b 7 + 256 * Pl.byt b 8) := rfl
  have HD : Hid (Pl.hS b = Pl.byt b 9 + 256 * Pl.byt b 10) := rfl
  have HR : Hid (Pl.hRoot b = b.extract 3 7) := rfl
  have his := fun w => rissum_any (Pl.hRoot b) w (by rw [HR.out, ByteArray.size_extract]; unfold maxLen; omega)
  rw [HR.out] at his
  have HH : Hid (Pl.headB b = (decide (Pl.byt b 0 = 72) && decide (Pl.hSize b ≤ 40) && Pl.isSumB (Pl.hRoot b) && decide (Pl.hC b < 1019) && decide (Pl.hS b < 1019))) := by
    show _ = _
    unfold Pl.headB
    rw [hb]
    rfl
  generalize Pl.byt b 0 = x0 at *
  generalize Pl.byt b 1 = x1 at *
  generalize Pl.byt b 2 = x2 at *
  generalize Pl.byt b 7 = x7 at *
  generalize Pl.byt b 8 = x8 at *
  generalize Pl.byt b 9 = x9 at *
  generalize Pl.byt b 10 = x10 at *
  have HS2 : Hid ((Pl.hSize b : Int) = (x1 : Int) + 256 * (x2 : Int)) := by show _ = _; rw [HS.out]; omega
  have HC2 : Hid ((Pl.hC b : Int) = (x7 : Int) + 256 * (x8 : Int)) := by show _ = _; rw [HC.out]; omega
  have HD2 : Hid ((Pl.hS b : Int) = (x9 : Int) + 256 * (x10 : Int)) := by show _ = _; rw [HD.out]; omega
  rw [HS.out, HC.out, HD.out, HR.out] at HH
  clear HS HC HD
  by_cases g0 : x0 = 72
  · have d0 : ((x0 : Int) == 72) = true := by rw [g0]; rfl
    by_cases g1 : x1 + 256 * x2 ≤ 40
    · have d1 : decide ((x1 : Int) + 256 * (x2 : Int) ≤ 40) = true := decide_eq_true (by omega)
      cases g2 : Pl.isSumB (b.extract 3 7) with
      | true =>
        rw [g2] at his
        by_cases g3 : x7 + 256 * x8 < 1019
        · have d3 : decide ((x7 : Int) + 256 * (x8 : Int) < 1019) = true := decide_eq_true (by omega)
          by_cases g4 : x9 + 256 * x10 < 1019
          · have d4 : decide ((x9 : Int) + 256 * (x10 : Int) < 1019) = true := decide_eq_true (by omega)
            have HB : Hid (Pl.headB b = true) := by show _ = _; rw [HH.out]; simp [g0, g1, g2, g3, g4]
            clear HH
            clear g0 g2
            go_enter Tryz.func65, Tryz.ntmps65
            go_wp2_with fail
            go_region
            go_wp2_with fail
            go_quiet (fail)
            go_wp2_with fail
            go_quiet (fail)
            go_wp2_with fail
            refine (his _).mono ?_
            rintro e w2 ⟨rfl, rfl⟩
            go_wp2_with fail
            generalize hW : (((w.alloc (.cells #[.int .i64 0, .string ⟨#[]⟩] 59)).alloc (.cells #[.int .i64 ((x1 : Int) + 256 * (x2 : Int)), .string (b.extract 3 7)] 59)).drewN _) = W2
            have HW := two_boxes w (.int .i64 0) (.string ⟨#[]⟩) (.int .i64 ((x1 : Int) + 256 * (x2 : Int))) (.string (b.extract 3 7)) 59 _ hW
            obtain ⟨k2, m0, m1, m2, m3, f0, f1⟩ := HW
            clear hW
            go_region
            go_wp2_with fail
            rw [HB.out, HR.out, HS2.out, HC2.out, HD2.out]
            refine bodyPost_ret (v := .tuple #[.agg #[.int .i64 ((x1 : Int) + 256 * (x2 : Int)), .string (b.extract 3 7)], .int .i64 ((x7 : Int) + 256 * (x8 : Int)), .int .i64 ((x9 : Int) + 256 * (x10 : Int)), .bool true]) (by simp [results, Tryz.results65, go_sem, m0, m1]) rfl ⟨rfl, ?_⟩
            exact ((k2.setCell (Nat.le_refl _) _).setCell (Nat.le_refl _) _).drew
          · have d4 : decide ((x9 : Int) + 256 * (x10 : Int) < 1019) = false := decide_eq_false (by omega)
            have HB : Hid (Pl.headB b = false) := by show _ = _; rw [HH.out]; simp [g4]
            clear HH
            clear g0 g2
            go_enter Tryz.func65, Tryz.ntmps65
            go_wp2_with fail
            go_region
            go_wp2_with fail
            go_quiet (fail)
            go_wp2_with fail
            go_quiet (fail)
            go_wp2_with fail
            refine (his _).mono ?_
            rintro e w2 ⟨rfl, rfl⟩
            go_wp2_with fail
            generalize hW : (((w.alloc (.cells #[.int .i64 0, .string ⟨#[]⟩] 59)).alloc (.cells #[.int .i64 ((x1 : Int) + 256 * (x2 : Int)), .string (b.extract 3 7)] 59)).drewN _) = W2
            have HW := two_boxes w (.int .i64 0) (.string ⟨#[]⟩) (.int .i64 ((x1 : Int) + 256 * (x2 : Int))) (.string (b.extract 3 7)) 59 _ hW
            obtain ⟨k2, m0, m1, m2, m3, f0, f1⟩ := HW
            clear hW
            go_region
            go_wp2_with fail
            rw [HB.out, HR.out, HS2.out, HC2.out, HD2.out]
            refine bodyPost_ret (v := .tuple #[.agg #[.int .i64 ((x1 : Int) + 256 * (x2 : Int)), .string (b.extract 3 7)], .int .i64 ((x7 : Int) + 256 * (x8 : Int)), .int .i64 ((x9 : Int) + 256 * (x10 : Int)), .bool false]) (by simp [results, Tryz.results65, go_sem, m0, m1]) rfl ⟨rfl, ?_⟩
            exact ((k2.setCell (Nat.le_refl _) _).setCell (Nat.le_refl _) _).drew
        · have d3 : decide ((x7 : Int) + 256 * (x8 : Int) < 1019) = false := decide_eq_false (by omega)
          have HB : Hid (Pl.headB b = false) := by show _ = _; rw [HH.out]; simp [g3]
          clear HH
          clear g0 g2
          go_enter Tryz.func65, Tryz.ntmps65
          go_wp2_with fail
          go_region
          go_wp2_with fail
          go_quiet (fail)
          go_wp2_with fail
          go_quiet (fail)
          go_wp2_with fail
          refine (his _).mono ?_
          rintro e w2 ⟨rfl, rfl⟩
          go_wp2_with fail
          generalize hW : (((w.alloc (.cells #[.int .i64 0, .string ⟨#[]⟩] 59)).alloc (.cells #[.int .i64 ((x1 : Int) + 256 * (x2 : Int)), .string (b.extract 3 7)] 59)).drewN _) = W2
          have HW := two_boxes w (.int .i64 0) (.string ⟨#[]⟩) (.int .i64 ((x1 : Int) + 256 * (x2 : Int))) (.string (b.extract 3 7)) 59 _ hW
          obtain ⟨k2, m0, m1, m2, m3, f0, f1⟩ := HW
          clear hW
          go_region
          go_wp2_with fail
          rw [HB.out, HR.out, HS2.out, HC2.out, HD2.out]
          refine bodyPost_ret (v := .tuple #[.agg #[.int .i64 ((x1 : Int) + 256 * (x2 : Int)), .string (b.extract 3 7)], .int .i64 ((x7 : Int) + 256 * (x8 : Int)), .int .i64 ((x9 : Int) + 256 * (x10 : Int)), .bool false]) (by simp [results, Tryz.results65, go_sem, m0, m1]) rfl ⟨rfl, ?_⟩
          exact ((k2.setCell (Nat.le_refl _) _).setCell (Nat.le_refl _) _).drew
      | false =>
        rw [g2] at his
        have HB : Hid (Pl.headB b = false) := by show _ = _; rw [HH.out]; simp [g2]
        clear HH
        clear g0 g2
        go_enter Tryz.func65, Tryz.ntmps65
        go_wp2_with fail
        go_region
        go_wp2_with fail
        go_quiet (fail)
        go_wp2_with fail
        go_quiet (fail)
        go_wp2_with fail
        refine (his _).mono ?_
        rintro e w2 ⟨rfl, rfl⟩
        go_wp2_with fail
        generalize hW : (((w.alloc (.cells #[.int .i64 0, .string ⟨#[]⟩] 59)).alloc (.cells #[.int .i64 ((x1 : Int) + 256 * (x2 : Int)), .string (b.extract 3 7)] 59)).drewN _) = W2
        have HW := two_boxes w (.int .i64 0) (.string ⟨#[]⟩) (.int .i64 ((x1 : Int) + 256 * (x2 : Int))) (.string (b.extract 3 7)) 59 _ hW
        obtain ⟨k2, m0, m1, m2, m3, f0, f1⟩ := HW
        clear hW
        go_region
        go_wp2_with fail
        rw [HB.out, HR.out, HS2.out, HC2.out, HD2.out]
        refine bodyPost_ret (v := .tuple #[.agg #[.int .i64 ((x1 : Int) + 256 * (x2 : Int)), .string (b.extract 3 7)], .int .i64 ((x7 : Int) + 256 * (x8 : Int)), .int .i64 ((x9 : Int) + 256 * (x10 : Int)), .bool false]) (by simp [results, Tryz.results65, go_sem, m0, m1]) rfl ⟨rfl, ?_⟩
        exact ((k2.setCell (Nat.le_refl _) _).setCell (Nat.le_refl _) _).drew
    · have d1 : decide ((x1 : Int) + 256 * (x2 : Int) ≤ 40) = false := decide_eq_false (by omega)
      have HB : Hid (Pl.headB b = false) := by show _ = _; rw [HH.out]; simp [g1]
      clear HH
      clear g0
      go_enter Tryz.func65, Tryz.ntmps65
      go_wp2_with fail
      go_region
      go_wp2_with fail
      go_quiet (fail)
      go_wp2_with fail
      go_quiet (fail)
      go_wp2_with fail
      refine (his _).mono ?_
      rintro e w2 ⟨rfl, rfl⟩
      go_wp2_with fail
      generalize hW : (((w.alloc (.cells #[.int .i64 0, .string ⟨#[]⟩] 59)).alloc (.cells #[.int .i64 ((x1 : Int) + 256 * (x2 : Int)), .string (b.extract 3 7)] 59)).drewN _) = W2
      have HW := two_boxes w (.int .i64 0) (.string ⟨#[]⟩) (.int .i64 ((x1 : Int) + 256 * (x2 : Int))) (.string (b.extract 3 7)) 59 _ hW
      obtain ⟨k2, m0, m1, m2, m3, f0, f1⟩ := HW
      clear hW
      go_region
      go_wp2_with fail
      rw [HB.out, HR.out, HS2.out, HC2.out, HD2.out]
      refine bodyPost_ret (v := .tuple #[.agg #[.int .i64 ((x1 : Int) + 256 * (x2 : Int)), .string (b.extract 3 7)], .int .i64 ((x7 : Int) + 256 * (x8 : Int)), .int .i64 ((x9 : Int) + 256 * (x10 : Int)), .bool false]) (by simp [results, Tryz.results65, go_sem, m0, m1]) rfl ⟨rfl, ?_⟩
      exact ((k2.setCell (Nat.le_refl _) _).setCell (Nat.le_refl _) _).drew
  · have d0 : ((x0 : Int) == 72) = false := beq_eq_false_iff_ne.2 (by omega)
    have HB : Hid (Pl.headB b = false) := by show _ = _; rw [HH.out]; simp [g0]
    clear HH
    clear g0
    go_enter Tryz.func65, Tryz.ntmps65
    go_wp2_with fail
    go_region
    go_wp2_with fail
    go_quiet (fail)
    go_wp2_with fail
    go_quiet (fail)
    go_wp2_with fail
    refine (his _).mono ?_
    rintro e w2 ⟨rfl, rfl⟩
    go_wp2_with fail
    generalize hW : (((w.alloc (.cells #[.int .i64 0, .string ⟨#[]⟩] 59)).alloc (.cells #[.int .i64 ((x1 : Int) + 256 * (x2 : Int)), .string (b.extract 3 7)] 59)).drewN _) = W2
    have HW := two_boxes w (.int .i64 0) (.string ⟨#[]⟩) (.int .i64 ((x1 : Int) + 256 * (x2 : Int))) (.string (b.extract 3 7)) 59 _ hW
    obtain ⟨k2, m0, m1, m2, m3, f0, f1⟩ := HW
    clear hW
    go_region
    go_wp2_with fail
    rw [HB.out, HR.out, HS2.out, HC2.out, HD2.out]
    refine bodyPost_ret (v := .tuple #[.agg #[.int .i64 ((x1 : Int) + 256 * (x2 : Int)), .string (b.extract 3 7)], .int .i64 ((x7 : Int) + 256 * (x8 : Int)), .int .i64 ((x9 : Int) + 256 * (x10 : Int)), .bool false]) (by simp [results, Tryz.results65, go_sem, m0, m1]) rfl ⟨rfl, ?_⟩
    exact ((k2.setCell (Nat.le_refl _) _).setCell (Nat.le_refl _) _).drew

end Go.Proofs.YtkhnjipjbhcgdaaGreat
