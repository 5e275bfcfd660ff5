/-
  HOW LONG what Clash answers is.
-/
import Derived.Test.YtkhnjipjbhcgdabPlainG2
import Derived.Test.YtkhnjipjbhcgdabAns3
namespace Go.Proofs.Ytkhnjipjbhcgdab

theorem leafT_sizes (leaf : ByteArray) (n i : Nat) (p t : List ByteArray) (r : ByteArray) (h1 : 1 ≤ n) (hi : i < n) (hl : leaf.size ≤ 30) (h : Pl.leafT leaf i n p = some (t, r)) : ∀ s ∈ t, s.size ≤ 64 := by
  obtain ⟨hc, _, ht⟩ := Pl.leafT_texts leaf n i p t r h1 hi h
  unfold Pl.climbB at hc
  rw [Bool.and_eq_true] at hc
  intro s hs
  rw [ht] at hs
  rcases List.mem_cons.1 hs with h0 | h0
  · rw [h0]
    unfold Pl.textL
    rw [ByteArray.size_append]
    show 1 + leaf.size ≤ 64
    omega
  · have := Pl.climbT_size (Pl.lsides i n) p [Pl.sumB (Pl.textL leaf)] (by intro x hx; rw [List.mem_singleton.1 hx]; rfl) hc.2 s h0
    omega
theorem bothT_sizes (old : ByteArray) (n m : Nat) (p t : List ByteArray) (a b : ByteArray) (h1 : 1 ≤ m) (h2 : m ≤ n) (ho : old.size = 4) (h : Pl.bothT old m n true p = some (t, a, b)) : ∀ s ∈ t, s.size ≤ 64 := by
  have ht := Pl.bothT_texts old n m true p t a b h1 h2 h
  have hg := Pl.bothT_growth old n m true p h1 h2
  rw [h] at hg
  have hg : Pl.growth old (Pl.gsides m n) true p = some (a, b) := hg.symm
  intro s hs
  rw [ht] at hs
  unfold Pl.growth at hg
  unfold Pl.growthT at hs
  have key : ∀ (x : ByteArray) (q : List ByteArray), x.size = 4 → Pl.climbB (Pl.gsides m n) q = true → s ∈ Pl.climbT [x, x] (Pl.gsides m n) q → s.size ≤ 64 := by
    intro x q hx hc hs
    unfold Pl.climbB at hc
    rw [Bool.and_eq_true] at hc
    have := Pl.climbT_size (Pl.gsides m n) q [x, x] (by intro y hy; simp at hy; rw [hy]; exact hx) hc.2 s hs
    omega
  by_cases hc : (true && !((Pl.gsides m n).contains true)) = true
  · rw [if_pos hc] at hg hs
    by_cases hb : Pl.climbB (Pl.gsides m n) p = true
    · exact key old p ho hb hs
    · rw [if_neg hb] at hg; cases hg
  · rw [if_neg hc] at hg hs
    match p, hg, hs with
    | z :: q, hg, hs =>
      by_cases hz : Pl.isSumB z = true
      · by_cases hb : Pl.climbB (Pl.gsides m n) q = true
        · exact key z q (Pl.isSumB_four hz) hb hs
        · simp [hz, hb] at hg
      · simp [hz] at hg
theorem clashA_sizes (n1 i1 : Int) (l1 : ByteArray) (q1 : List ByteArray) (n2 i2 : Int) (l2 : ByteArray) (q2 q3 : List ByteArray) : (clashA n1 i1 l1 q1 n2 i2 l2 q2 q3).1.size ≤ 64 ∧ (clashA n1 i1 l1 q1 n2 i2 l2 q2 q3).2.1.size ≤ 64 := by
  unfold clashA
  split
  · rename_i hc
    obtain ⟨h1, h2, h3, h4⟩ := hc
    unfold Pl.ansB at h1 h2
    simp only [Bool.and_eq_true, decide_eq_true_eq] at h1 h2
    split
    · rename_i t1 x t2 y e1 e2
      split
      · rename_i t3 u v e3
        split
        · have z1 := leafT_sizes l1 n1.toNat i1.toNat q1 t1 x (by omega) (by omega) h1.2 e1
          have z2 := leafT_sizes l2 n2.toNat i2.toNat q2 t2 y (by omega) (by omega) h2.2 e2
          have hx := Pl.isSumB_four (Pl.leafT_size l1 n1.toNat i1.toNat q1 t1 x (by omega) (by omega) e1)
          have z3 := bothT_sizes x n2.toNat n1.toNat q3 t3 u v (by omega) (by omega) hx e3
          have z : ∀ s ∈ t1 ++ t2 ++ t3, s.size ≤ 64 := by
            intro s hs
            rw [List.mem_append, List.mem_append] at hs
            rcases hs with (hs | hs) | hs
            · exact z1 s hs
            · exact z2 s hs
            · exact z3 s hs
          unfold clashV
          split
          · exact ⟨by decide, by decide⟩
          · split
            · exact ⟨by decide, by decide⟩
            · rename_i s t hst
              obtain ⟨m1, m2, _⟩ := Pl.clashF_some hst
              exact ⟨z s m1, z t m2⟩
        · exact ⟨by decide, by decide⟩
      · exact ⟨by decide, by decide⟩
    · exact ⟨by decide, by decide⟩
  · exact ⟨by decide, by decide⟩
end Go.Proofs.Ytkhnjipjbhcgdab
