import Derived.Test.YtkhnjipjbhcgdaaGreatOpen2
import Derived.Laws.AppendOwnNone
import Derived.Lib.AppendZeros
import Derived.Lib.AppendZerosOnto
import Derived.Lib.SliceRun
import Derived.Test.YtkhnjipjbhcgdaaGreatPlainG
/-
  THE WALKS of slices.Grow of nothing, slices.Concat of three rows of texts.
-/
namespace Go.Proofs.YtkhnjipjbhcgdaaGreat
open Go.RowKit

theorem zeroCells_one (k : Nat) : (Builtin.zeroCells (Value.string ByteArray.empty).cells k).size = k := by
  rw [size_zeroCells]
  simp [Value.cells]

/-- A row that is read: nil, or texts behind an address. -/
def Src (w : World) (v : Value) (t : List ByteArray) : Prop := (v = .slice none 0 0 ∧ t = []) ∨ ∃ g o c, v = .slice (some ⟨g, o, none⟩) t.length c ∧ Row w (some ⟨g, o, none⟩) t
theorem Own.src {w : World} {B : Nat} {v : Value} {ss : List ByteArray} (h : Own w B v ss) (hs : ∀ s ∈ ss, s.size ≤ maxLen) (hl : ss.length ≤ maxLen) : Src w v ss := by
  rcases Classical.em (ss = []) with h0 | h0
  · subst h0
    rcases h.2 with ⟨rfl, _⟩ | ⟨g, cap, cur, rfl, _⟩
    · exact Or.inl ⟨rfl, rfl⟩
    · exact Or.inr ⟨g, 0, cap, rfl, by simp, by simp, Or.inl rfl⟩
  · obtain ⟨g, cap, rfl, _, _, _, hr⟩ := h.open h0 hs hl
    exact Or.inr ⟨g, 0, cap, rfl, hr⟩
theorem Src.grow {w w' : World} {v : Value} {t : List ByteArray} (h : Src w v t) (hb : Below w.heap.size w w') : Src w' v t := by
  rcases h with h | ⟨g, o, c, hv, hr⟩
  · exact Or.inl h
  · exact Or.inr ⟨g, o, c, hv, hr.grow hb (Nat.le_refl _)⟩
theorem Src.len {w : World} {v : Value} {t : List ByteArray} (h : Src w v t) : ∃ p c, v = .slice p t.length c := by
  rcases h with ⟨rfl, rfl⟩ | ⟨g, o, c, rfl, _⟩
  · exact ⟨none, 0, rfl⟩
  · exact ⟨_, c, rfl⟩
theorem row_news {w : World} {g o : Nat} {t : List ByteArray} (hr : Row w (some ⟨g, o, none⟩) t) : ∀ j u, (t.map Value.string)[j]? = some u → w.cell? ((⟨g, o, none⟩ : Addr).add j) = some u := by
  intro j u hu
  rw [List.getElem?_map] at hu
  cases ht : t[j]? with
  | none => rw [ht] at hu; cases hu
  | some x =>
    rw [ht] at hu
    obtain ⟨hj, rfl⟩ := List.getElem?_eq_some_iff.1 ht
    rcases hr.cell with h0 | ⟨b', o', he, hb, hcell⟩
    · rw [h0] at hj; simp at hj
    · simp only [Option.some.injEq, Addr.mk.injEq, and_true] at he
      obtain ⟨rfl, rfl⟩ := he
      rw [Hp.add_plain, hcell j hj]
      exact hu
theorem all_cells {t : List ByteArray} : ∀ u ∈ t.map Value.string, u.oneCell' = true := by
  intro u hu
  obtain ⟨x, _, rfl⟩ := List.mem_map.1 hu
  rfl

end Go.Proofs.YtkhnjipjbhcgdaaGreat

/-
  THE PLAIN MATHEMATICS: the paths that are made fold to the roots.
-/
namespace Go.Proofs.YtkhnjipjbhcgdaaGreat.Pl

theorem hex_dig (n : Nat) : digB (hex n) = true := by
  have h : ∀ k : Fin 16, digB (hex k.val) = true := by decide
  have hm : hex n = hex (n % 16) := by unfold hex; rw [Nat.mod_mod]
  rw [hm]
  exact h ⟨n % 16, Nat.mod_lt _ (by omega)⟩
theorem sum_isSum (l : List UInt8) : isSumB (sum l) = true := by
  unfold isSumB sum dig4
  simp [hex_dig]
  rfl
theorem sumB_isSum (t : ByteArray) : isSumB (sumB t) = true := sum_isSum _
theorem root_isSum (ss : List ByteArray) : isSumB (root ss) = true := by
  by_cases h0 : ss.length = 0
  · obtain rfl : ss = [] := List.eq_nil_of_length_eq_zero h0
    rw [root_zero]
    exact sum_isSum _
  · by_cases h1 : ss.length = 1
    · rw [root_one ss h1]
      exact sum_isSum _
    · rw [root_more ss (by omega)]
      exact sum_isSum _
theorem root_leaf (s : ByteArray) : root [s] = sumB (textL s) := by
  rw [root_one [s] rfl]
  unfold sumB textL
  simp [cat, ByteArray.data_append]
theorem root_node (ss : List ByteArray) (h : 2 ≤ ss.length) : root ss = sumB (textN (root (ss.take (half ss.length))) (root (ss.drop (half ss.length)))) := by
  rw [root_more ss h]
  unfold sumB textN
  simp [ByteArray.data_append]

theorem leafT_path : ∀ (n : Nat) (ss : List ByteArray) (i : Nat) (hi : i < ss.length), ss.length = n → ∃ t, leafT ss[i] i n (path ss i) = some (t, root ss) := by
  intro n
  induction n using Nat.strongRecOn with
  | ind n ih =>
    intro ss i hi hn
    by_cases h1 : n = 1
    · subst h1
      obtain ⟨s, rfl⟩ := List.length_eq_one_iff.1 hn
      obtain rfl : i = 0 := by simp at hi; omega
      rw [path_one [s] 0 (by simp), leafT_one, if_pos rfl, root_leaf]
      exact ⟨_, rfl⟩
    · have h2 : 2 ≤ ss.length := by omega
      have hp := half_pos ss.length
      have hl := half_lt ss.length h2
      have e1 := take_half ss h2
      have e2 := drop_half ss
      have hn' := root_node ss h2
      subst hn
      rw [leafT_more _ _ _ _ h2]
      by_cases hh : i < half ss.length
      · rw [path_left ss i h2 hh]
        simp only [List.getLast?_concat, List.dropLast_concat]
        have hi' : i < (ss.take (half ss.length)).length := by omega
        obtain ⟨t, ht⟩ := ih (half ss.length) hl (ss.take (half ss.length)) i hi' e1
        rw [List.getElem_take] at ht
        rw [if_neg (by rw [root_isSum]; simp), if_pos hh, ht]
        exact ⟨_, by rw [hn']⟩
      · rw [path_right ss i h2 hh]
        simp only [List.getLast?_concat, List.dropLast_concat]
        have hi' : i - half ss.length < (ss.drop (half ss.length)).length := by omega
        obtain ⟨t, ht⟩ := ih (ss.length - half ss.length) (by omega) (ss.drop (half ss.length)) (i - half ss.length) hi' e2
        have hg : (ss.drop (half ss.length))[i - half ss.length]'hi' = ss[i] := by
          rw [List.getElem_drop]
          congr 1
          omega
        rw [hg] at ht
        rw [if_neg (by rw [root_isSum]; simp), if_neg hh, ht]
        exact ⟨_, by rw [hn']⟩

theorem climbB_length {S : List Bool} {P : List ByteArray} (h : climbB S P = true) : P.length = S.length := by
  unfold climbB at h
  rw [Bool.and_eq_true, decide_eq_true_iff] at h
  exact h.1
/-- A path that is longer does not fold. -/
theorem leafT_long (ss : List ByteArray) (i : Nat) (hi : i < ss.length) (r : ByteArray) : leafT ss[i] i ss.length (path ss i ++ [r]) = none := by
  obtain ⟨t, ht⟩ := leafT_path ss.length ss i hi rfl
  have h1 := leafT_climb ss[i] ss.length i (path ss i) (by omega) hi
  rw [ht] at h1
  have hb : climbB (lsides i ss.length) (path ss i) = true := by
    cases hc : climbB (lsides i ss.length) (path ss i) with
    | true => rfl
    | false => rw [hc] at h1; simp at h1
  have hlen := climbB_length hb
  have h2 := leafT_climb ss[i] ss.length i (path ss i ++ [r]) (by omega) hi
  have hb2 : climbB (lsides i ss.length) (path ss i ++ [r]) = false := by
    cases hc : climbB (lsides i ss.length) (path ss i ++ [r]) with
    | false => rfl
    | true =>
      have := climbB_length hc
      simp at this
      omega
  rw [hb2, if_neg (by simp)] at h2
  cases hx : leafT ss[i] i ss.length (path ss i ++ [r]) with
  | none => rfl
  | some x => rw [hx] at h2; simp at h2

theorem half_le (n : Nat) (h : n ≤ 64) : n ≤ 2 * half n := by
  unfold half
  split <;> (try split) <;> (try split) <;> (try split) <;> (try split) <;> omega
theorem half_pow (n : Nat) : half n = 1 ∨ half n = 2 ∨ half n = 4 ∨ half n = 8 ∨ half n = 16 ∨ half n = 32 := by
  unfold half
  split <;> (try split) <;> (try split) <;> (try split) <;> (try split) <;> omega
theorem half_same (m n : Nat) (hn : n ≤ 64) (h1 : half n < m) (h2 : m ≤ n) : half m = half n :=
  half_of m (half n) (half_pow n) h1 (Nat.le_trans h2 (half_le n hn))

theorem bothT_parts : ∀ (n : Nat) (ss : List ByteArray) (m : Nat) (whole : Bool) (old : ByteArray), ss.length = n → n ≤ 64 → 1 ≤ m → m ≤ n → (whole = true → old = root (ss.take m)) →
    ∃ t, bothT old m n whole (parts ss m whole) = some (t, root (ss.take m), root ss) := by
  intro n
  induction n using Nat.strongRecOn with
  | ind n ih =>
    intro ss m whole old hn h64 h1 h2 hw
    by_cases hmn : m = n
    · subst hmn
      have ht : ss.take m = ss := List.take_of_length_le (by omega)
      rw [ht] at hw ⊢
      cases whole with
      | true =>
        rw [parts_whole ss m h1 hn.symm, bothT_whole _ _ _ h1, if_pos rfl, hw rfl]
        exact ⟨_, rfl⟩
      | false =>
        rw [parts_root ss m h1 hn.symm, bothT_part _ _ _ h1]
        simp only [List.getLast?_singleton, List.length_singleton]
        rw [if_neg (by rw [root_isSum]; simp), if_pos trivial]
        exact ⟨_, rfl⟩
    · have hl2 : 2 ≤ ss.length := by omega
      have hp := half_pos ss.length
      have hl := half_lt ss.length hl2
      have e1 := take_half ss hl2
      have e2 := drop_half ss
      have hn' := root_node ss hl2
      subst hn
      rw [bothT_more old m ss.length whole _ h1 (by omega)]
      by_cases hm : m ≤ half ss.length
      · rw [parts_left ss m whole h1 (by omega) hm]
        simp only [List.getLast?_concat, List.dropLast_concat]
        have htt : (ss.take (half ss.length)).take m = ss.take m := by rw [List.take_take, Nat.min_eq_left hm]
        obtain ⟨t, ht⟩ := ih (half ss.length) hl (ss.take (half ss.length)) m whole old e1 (by omega) h1 hm (by rw [htt]; exact hw)
        rw [if_neg (by rw [root_isSum]; simp), if_pos hm, ht, htt]
        exact ⟨_, by rw [hn']⟩
      · rw [parts_right ss m whole (by omega) hm]
        simp only [List.getLast?_concat, List.dropLast_concat]
        obtain ⟨t, ht⟩ := ih (ss.length - half ss.length) (by omega) (ss.drop (half ss.length)) (m - half ss.length) false old e2 (by omega) (by omega) (by omega) (fun h => by cases h)
        rw [if_neg (by rw [root_isSum]; simp), if_neg hm, ht]
        have hml : (ss.take m).length = m := by rw [List.length_take]; omega
        have hr := root_node (ss.take m) (by omega)
        rw [hml, half_same m ss.length h64 (by omega) h2, List.take_take, Nat.min_eq_left (by omega), List.drop_take] at hr
        exact ⟨_, by rw [hn', hr]⟩
end Go.Proofs.YtkhnjipjbhcgdaaGreat.Pl
