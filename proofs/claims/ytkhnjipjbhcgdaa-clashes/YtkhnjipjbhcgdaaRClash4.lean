/-
  WHAT treeheadref.Clash ANSWERS.
-/
import Derived.Test.YtkhnjipjbhcgdaaRClash3
namespace Go.Proofs.Ytkhnjipjbhcgdaa
open Go.RowKit Hp

theorem rclash_any (n1 i1 : Int) (l1 : ByteArray) (p1 : Option Addr) (q1 : List ByteArray) (c1 : Nat) (n2 i2 : Int) (l2 : ByteArray) (p2 : Option Addr) (q2 : List ByteArray) (c2 : Nat) (p3 : Option Addr) (q3 : List ByteArray) (c3 : Nat) (w : World)
    (hr1 : Row w p1 q1) (hr2 : Row w p2 q2) (hr3 : Row w p3 q3) (hpc1 : q1.length ≤ c1) (hcm1 : c1 ≤ 9223372036854775807) (hpc2 : q2.length ≤ c2) (hcm2 : c2 ≤ 9223372036854775807) (hpc3 : q3.length ≤ c3) (hcm3 : c3 ≤ 9223372036854775807) :
    Calls Try.prog 41 #[.agg #[.int .i64 n1, .int .i64 i1, .string l1, .slice p1 q1.length c1], .agg #[.int .i64 n2, .int .i64 i2, .string l2, .slice p2 q2.length c2], .slice p3 q3.length c3] w fun e w' => e = .returned (.tuple #[.string (clashA n1 i1 l1 q1 n2 i2 l2 q2 q3).1, .string (clashA n1 i1 l1 q1 n2 i2 l2 q2 q3).2.1, .int .i64 (clashA n1 i1 l1 q1 n2 i2 l2 q2 q3).2.2]) ∧ Below w.heap.size w w' := by
  by_cases h : Pl.ansB n1 i1 l1 = true ∧ Pl.ansB n2 i2 l2 = true ∧ i1 = i2 ∧ n1 ≤ n2
  · obtain ⟨h1, h2, h3, h4⟩ := h
    subst h3
    obtain ⟨a1, a2, a3, a4, a5⟩ := (ansB_iff _ _ _).1 h1
    obtain ⟨b1, b2, b3, b4, b5⟩ := (ansB_iff _ _ _).1 h2
    obtain ⟨m, rfl⟩ : ∃ m : Nat, n1 = (m : Int) := ⟨n1.toNat, by omega⟩
    obtain ⟨n, rfl⟩ : ∃ n : Nat, n2 = (n : Int) := ⟨n2.toNat, by omega⟩
    obtain ⟨i, rfl⟩ : ∃ i : Nat, i1 = (i : Int) := ⟨i1.toNat, by omega⟩
    have hA : clashA (m : Int) (i : Int) l1 q1 (n : Int) (i : Int) l2 q2 q3 = (match Pl.leafT l1 i m q1, Pl.leafT l2 i n q2 with
      | some (t1, x), some (t2, y) =>
        (match Pl.bothT x m n true q3 with
        | some (t3, u, v) => if u = x ∧ v = y then clashV l1 l2 (t1 ++ t2 ++ t3) else (⟨#[]⟩, ⟨#[]⟩, 6)
        | none => (⟨#[]⟩, ⟨#[]⟩, 6))
      | _, _ => (⟨#[]⟩, ⟨#[]⟩, 6)) := by
      unfold clashA
      rw [if_pos ⟨h1, h2, rfl, h4⟩]
      rfl
    cases hT1 : Pl.leafT l1 i m q1 with
    | none =>
      rw [hA, hT1]
      exact rclash_leaf1 m n i l1 p1 q1 c1 l2 p2 q2 c2 p3 q3 c3 w h1 h2 h4 hr1 hr2 hr3 hpc1 hcm1 hpc2 hcm2 hpc3 hcm3 hT1
    | some z =>
      obtain ⟨t1, x⟩ := z
      cases hT2 : Pl.leafT l2 i n q2 with
      | none =>
        rw [hA, hT1, hT2]
        exact rclash_leaf2 m n i l1 p1 q1 c1 l2 p2 q2 c2 p3 q3 c3 w h1 h2 h4 hr1 hr2 hr3 hpc1 hcm1 hpc2 hcm2 hpc3 hcm3 t1 x hT1 hT2
      | some z2 =>
        obtain ⟨t2, y⟩ := z2
        cases hT3 : Pl.bothT x m n true q3 with
        | none =>
          rw [hA, hT1, hT2]
          simp only [hT3]
          exact rclash_both0 m n i l1 p1 q1 c1 l2 p2 q2 c2 p3 q3 c3 w h1 h2 h4 hr1 hr2 hr3 hpc1 hcm1 hpc2 hcm2 hpc3 hcm3 t1 t2 x y hT1 hT2 hT3
        | some z3 =>
          obtain ⟨t3, u, v⟩ := z3
          by_cases hu : u = x
          · by_cases hv : v = y
            · subst hu hv
              have hAA : clashA (m : Int) (i : Int) l1 q1 (n : Int) (i : Int) l2 q2 q3 = clashV l1 l2 (t1 ++ t2 ++ t3) := by
                rw [hA, hT1, hT2]
                simp only [hT3, and_self, if_true]
              rw [hAA]
              by_cases hl : l1 = l2
              · unfold clashV
                rw [if_pos hl]
                exact rclash_same m n i l1 p1 q1 c1 l2 p2 q2 c2 p3 q3 c3 w h1 h2 h4 hr1 hr2 hr3 hpc1 hcm1 hpc2 hcm2 hpc3 hcm3 t1 t2 u v hT1 hT2 t3 hT3 hl
              · exact rclash_find m n i l1 p1 q1 c1 l2 p2 q2 c2 p3 q3 c3 w h1 h2 h4 hr1 hr2 hr3 hpc1 hcm1 hpc2 hcm2 hpc3 hcm3 t1 t2 u v hT1 hT2 t3 hT3 hl _ rfl
            · subst hu
              rw [hA, hT1, hT2]
              simp only [hT3, hv, and_false, if_false]
              exact rclash_both2 m n i l1 p1 q1 c1 l2 p2 q2 c2 p3 q3 c3 w h1 h2 h4 hr1 hr2 hr3 hpc1 hcm1 hpc2 hcm2 hpc3 hcm3 t1 t2 u y hT1 hT2 t3 v hT3 hv
          · rw [hA, hT1, hT2]
            simp only [hT3, hu, false_and, if_false]
            exact rclash_both1 m n i l1 p1 q1 c1 l2 p2 q2 c2 p3 q3 c3 w h1 h2 h4 hr1 hr2 hr3 hpc1 hcm1 hpc2 hcm2 hpc3 hcm3 t1 t2 x y hT1 hT2 t3 u v hT3 hu
  · have he : clashA n1 i1 l1 q1 n2 i2 l2 q2 q3 = (⟨#[]⟩, ⟨#[]⟩, 1) := if_neg h
    rw [he]
    cases h1 : Pl.ansB n1 i1 l1 with
    | false => exact rclash_arg1 n1 i1 l1 p1 q1.length c1 n2 i2 l2 p2 q2.length c2 p3 q3.length c3 w h1
    | true =>
      cases h2 : Pl.ansB n2 i2 l2 with
      | false => exact rclash_arg2 n1 i1 l1 p1 q1.length c1 n2 i2 l2 p2 q2.length c2 p3 q3.length c3 w h1 h2
      | true =>
        by_cases h3 : i1 = i2
        · by_cases h4 : n1 ≤ n2
          · exact absurd ⟨h1, h2, h3, h4⟩ h
          · exact rclash_arg4 n1 i1 l1 p1 q1.length c1 n2 i2 l2 p2 q2.length c2 p3 q3.length c3 w h1 h2 h3 (by omega)
        · exact rclash_arg3 n1 i1 l1 p1 q1.length c1 n2 i2 l2 p2 q2.length c2 p3 q3.length c3 w h1 h2 h3
end Go.Proofs.Ytkhnjipjbhcgdaa
