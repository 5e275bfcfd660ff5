import Derived.Test.YtkhnjipjbhcgdaaGreatPlainS
import Derived.Test.YtkhnjipjbhcgdaaGreatRPath
/-
  THE WALKS of treeheadref.IsSum, (*Fold).sum, (*Fold).last.
-/
namespace Go.Proofs.YtkhnjipjbhcgdaaGreat
open Go.RowKit

theorem isSumB_long {s : ByteArray} (h : ¬ s.size = 4) : Pl.isSumB s = false := by simp [Pl.isSumB, h]
theorem isSumB_bad {s : ByteArray} (k : Nat) (hk : k < s.size) (h : Pl.digB s[k] = false) : Pl.isSumB s = false := by
  cases hb : Pl.isSumB s with
  | false => rfl
  | true =>
    simp only [Pl.isSumB, Bool.and_eq_true, List.all_eq_true] at hb
    have := hb.2 s[k] (by
      rw [show s[k] = s.data.toList[k]'(by simpa using hk) from rfl]
      exact List.getElem_mem _)
    rw [h] at this
    cases this
theorem isSumB_good {s : ByteArray} (h : s.size = 4) (ha : ∀ k (hk : k < s.size), Pl.digB s[k] = true) : Pl.isSumB s = true := by
  simp only [Pl.isSumB, Bool.and_eq_true, List.all_eq_true, decide_eq_true_eq]
  refine ⟨h, fun c hc => ?_⟩
  obtain ⟨k, hk, rfl⟩ := List.getElem_of_mem hc
  exact ha k (by simpa using hk)
theorem isSumB_size {s : ByteArray} (h : Pl.isSumB s = true) : s.size = 4 := by
  simp only [Pl.isSumB, Bool.and_eq_true, decide_eq_true_eq] at h
  exact h.1
theorem digB_yes {c : UInt8} (h : Pl.digB c = true) : (48 ≤ c.toNat ∧ c.toNat ≤ 57) ∨ (97 ≤ c.toNat ∧ c.toNat ≤ 102) := by
  simpa only [Pl.digB, Bool.or_eq_true, Bool.and_eq_true, decide_eq_true_eq] using h
theorem digB_no {c : UInt8} (h : Pl.digB c = false) : (c.toNat < 48 ∨ 57 < c.toNat) ∧ (c.toNat < 97 ∨ 102 < c.toNat) := by
  have hn : ¬ ((48 ≤ c.toNat ∧ c.toNat ≤ 57) ∨ (97 ≤ c.toNat ∧ c.toNat ≤ 102)) := by
    intro hh
    have : Pl.digB c = true := by simpa only [Pl.digB, Bool.or_eq_true, Bool.and_eq_true, decide_eq_true_eq] using hh
    rw [h] at this
    cases this
  omega

set_option maxRecDepth 100000 in
set_option maxHeartbeats 1000000 in
theorem rissum_any (s : ByteArray) (w : World) (_hs : s.size ≤ maxLen) :
    Calls Tryz.prog 40 #[.string s] w fun e w' => e = .returned (.bool (Pl.isSumB s)) ∧ w' = w := by
  by_cases h4 : s.size = 4
  · have hb4 : ((s.size : Int) != 4) = false := by rw [h4]; rfl
    have HG : Hid (∀ (ha : ∀ k (hk : k < s.size), Pl.digB s[k] = true), Pl.isSumB s = true) := fun ha => isSumB_good h4 ha
    have H4 : Hid (s.size = 4) := h4
    clear h4
    go_enter Tryz.func40, Tryz.ntmps40
    go_wp2
    go_loop [3] (fun i => ∃ k : Nat, k ≤ 4 ∧ i = .int .i64 k ∧ Hid (∀ j (hj : j < s.size), j < k → Pl.digB s[j] = true)) (fun i => 4 - (intOf i).toNat)
    case atStart => exact ⟨0, by omega, rfl, fun j hj h => by omega⟩
    case round =>
      obtain ⟨k, hk, rfl, HA⟩ := hrel
      by_cases hlt : k < 4
      · have hks : k < s.size := by rw [H4.out]; exact hlt
        cases hd : Pl.digB s[k] with
        | true =>
          have HN : Hid (∀ j (hj : j < s.size), j < k + 1 → Pl.digB s[j] = true) := by
            intro j hj hjk
            by_cases hjk2 : j < k
            · exact HA.out j hj hjk2
            · obtain rfl : j = k := by omega
              exact hd
          rcases digB_yes hd with ⟨h1, h2⟩ | ⟨h1, h2⟩
          · clear hd
            go_wp2
            go_round
            case rel => exact ⟨k + 1, by omega, by go_num, HN⟩
            case measure => simp [intOf]; omega
          · clear hd
            have h3 : ¬ s[k].toNat < 48 := by omega
            have h5 : 57 < s[k].toNat := by omega
            go_wp2
            go_round
            case rel => exact ⟨k + 1, by omega, by go_num, HN⟩
            case measure => simp [intOf]; omega
        | false =>
          have HF : Hid _ := isSumB_bad k hks hd
          obtain ⟨h1, h2⟩ := digB_no hd
          clear hd
          rcases h1 with h1 | h1 <;> rcases h2 with h2 | h2
          all_goals first | (exfalso; omega) | skip
          all_goals
            go_wp2
            go_ret
            exact ⟨ret_bool HF.out.symm, rfl⟩
      · have HF : Hid _ := HG.out (fun j hj => HA.out j hj (by rw [H4.out] at hj; omega))
        go_wp2
        go_ret
        exact ⟨ret_bool HF.out.symm, rfl⟩
  · have HF : Hid _ := isSumB_long h4
    have hb4 : ((s.size : Int) != 4) = true := by rw [bne_iff_ne]; omega
    go_enter Tryz.func40, Tryz.ntmps40
    go_wp2
    go_ret
    exact ⟨ret_bool HF.out.symm, rfl⟩

/-- A Fold: the texts so far, and whether it folds. -/
structure FoldAt (w : World) (B F : Nat) (ts : List ByteArray) (ok : Bool) : Prop where
  le : B ≤ F
  short : ts.length ≤ 4000
  size : ∀ s ∈ ts, s.size ≤ 64
  held : ∃ v, w.heap[F]? = some (.cells #[v, .bool ok] 99 (0, 0)) ∧ Own w B v ts
theorem FoldAt.lt {w : World} {B F : Nat} {ts : List ByteArray} {ok : Bool} (h : FoldAt w B F ts ok) : F < w.heap.size := by
  obtain ⟨v, hg, _⟩ := h.held
  exact (Array.getElem?_eq_some_iff.1 hg).1

theorem cell_two {w : World} {F : Nat} {a b : Value} {t : TypeId} (hg : w.heap[F]? = some (.cells #[a, b] t (0, 0))) :
    w.cell? ⟨F, 0, none⟩ = some a ∧ w.cell? ⟨F, 1, none⟩ = some b ∧ w.frozen? ⟨F, 0, none⟩ = false ∧ w.frozen? ⟨F, 1, none⟩ = false := by
  simp [World.cell?, World.frozen?, hg]
theorem set_two0 {w : World} {F : Nat} {a b v : Value} {t : TypeId} (hg : w.heap[F]? = some (.cells #[a, b] t (0, 0))) : (w.setCell ⟨F, 0, none⟩ v).heap[F]? = some (.cells #[v, b] t (0, 0)) := by
  have := set_row (l := [a, b]) hg 0 v
  simpa using this
theorem set_two1 {w : World} {F : Nat} {a b v : Value} {t : TypeId} (hg : w.heap[F]? = some (.cells #[a, b] t (0, 0))) : (w.setCell ⟨F, 1, none⟩ v).heap[F]? = some (.cells #[a, v] t (0, 0)) := by
  have := set_row (l := [a, b]) hg 1 v
  simpa using this
/-- A row of texts is no Fold: a store into the Fold leaves it. -/
theorem Own.setFold {w : World} {B F o : Nat} {v u : Value} {ss : List ByteArray} {cs : Array Value} (h : Own w B v ss) (hg : w.heap[F]? = some (.cells cs 99 (0, 0))) : Own (w.setCell ⟨F, o, none⟩ u) B v ss := by
  refine ⟨h.1, ?_⟩
  rcases h.2 with hn | ⟨g, cap, cur, rfl, hb, hgg, rest⟩
  · exact Or.inl hn
  · refine Or.inr ⟨g, cap, cur, rfl, hb, ?_, rest⟩
    have hne : g ≠ F := by
      rintro rfl
      rw [hg] at hgg
      simp at hgg
    rw [Below.heap_setCell _ _ _ _ hne]
    exact hgg
theorem Own.ne_fold {w : World} {B F : Nat} {v : Value} {ss : List ByteArray} {cs : Array Value} (h : Own w B v ss) (hg : w.heap[F]? = some (.cells cs 99 (0, 0))) : some F ≠ v.ownBlock := by
  rcases h.2 with ⟨rfl, _⟩ | ⟨g, cap, cur, rfl, hb, hgg, _⟩
  · simp [Value.ownBlock]
  · intro he
    simp only [Value.ownBlock, Option.some.injEq] at he
    subst he
    rw [hg] at hgg
    simp at hgg

set_option maxRecDepth 100000 in
set_option maxHeartbeats 1000000 in
theorem fsum_any (B F : Nat) (ts : List ByteArray) (ok : Bool) (s : ByteArray) (w : World) (h : FoldAt w B F ts ok) (hB : B ≤ w.heap.size) (hs : s.size ≤ 64) (hl : ts.length < 4000) :
    Calls Tryz.prog 79 #[.pointer (some ⟨F, 0, none⟩), .string s] w fun e w' => e = .returned (.string (Pl.sumB s)) ∧ FoldAt w' B F (ts ++ [s]) ok ∧ Below B w w' := by
  obtain ⟨i0, hinf, hz0, hz1, hz2⟩ := info_parts infoStr
  obtain ⟨v, hg, ho⟩ := h.held
  have hlt := h.lt
  obtain ⟨c0, c1, f0, f1⟩ := cell_two hg
  have HO : Hid (Own w B v ts) := ho
  have HG : Hid (w.heap[F]? = some (.cells #[v, .bool ok] 99 (0, 0))) := hg
  have HF : Hid (FoldAt w B F ts ok) := h
  clear ho hg h
  go_enter Tryz.func79, Tryz.ntmps79
  go_wp2_with (at_builtin; refine wpList_append_own _ rfl _ _ 32 rfl B 9 i0 (.string ByteArray.empty) 1 16 Tryz.underlying32 hinf hz0 hz1 hz2 rfl (by decide) _ _ _ rfl (HO.out.alloc _) ⟨w.heap.size, 0, none⟩ 1 1 [.string s] rfl rfl (cell_one_new _ _ _) one_cell (by unfold maxLen; omega) (by omega) (by simp; omega) ?_)
  intro v1 w1 ho1 hg1 _
  have R := own_step (Below.refl B w) hB HO.out _ ho1 hg1
  have hG1 : w1.heap[F]? = some (.cells #[v, .bool ok] 99 (0, 0)) := by
    rw [hg1.block F (by simp; omega) (HO.out.ne_fold HG.out), Below.heap_alloc _ _ _ hlt]
    exact HG.out
  obtain ⟨d0, _, e0, _⟩ := cell_two hG1
  obtain ⟨p1, cp1, hv1⟩ := own_len R.1
  rw [List.length_append, List.length_singleton] at hv1
  subst hv1
  have HR1 : Hid (Own w1 B (.slice p1 (ts.length + 1) cp1) (ts ++ [s])) := R.1
  have hb1 : Below B w w1 := R.2
  have HG1 : Hid (w1.heap[F]? = some (.cells #[v, .bool ok] 99 (0, 0))) := hG1
  clear ho1 hg1 R hG1
  go_wp2_with fail
  refine (rsum_any s _ (Nat.le_trans hs (by decide))).mono ?_
  rintro e w2 ⟨rfl, n, rfl⟩
  go_wp2_with fail
  go_ret
  refine ⟨rfl, ⟨HF.out.le, by rw [List.length_append, List.length_singleton]; omega, ?_, .slice p1 (ts.length + 1) cp1, ?_, ?_⟩, ?_⟩
  · intro x hx
    rcases List.mem_append.1 hx with hx | hx
    · exact HF.out.size x hx
    · rw [List.mem_singleton.1 hx]; exact hs
  · exact set_two0 HG1.out
  · exact HR1.out.setFold HG1.out
  · exact below_drewN (hb1.setCell HF.out.le _) n

end Go.Proofs.YtkhnjipjbhcgdaaGreat
