import Derived.Test.YtkhnjipjbhcgdaaGreatPlainT
/-
  THE PLAIN MATHEMATICS: the path of a leaf, and the path from m to n.
-/
namespace Go.Proofs.YtkhnjipjbhcgdaaGreat.Pl

def pathF : Nat → List ByteArray → Nat → List ByteArray
  | 0, _, _ => []
  | f + 1, ss, i =>
    if ss.length ≤ 1 then []
    else if i < half ss.length then pathF f (ss.take (half ss.length)) i ++ [root (ss.drop (half ss.length))]
    else pathF f (ss.drop (half ss.length)) (i - half ss.length) ++ [root (ss.take (half ss.length))]
/-- The path of the leaf at i. -/
def path (ss : List ByteArray) (i : Nat) : List ByteArray := pathF ss.length ss i

theorem take_half (ss : List ByteArray) (h : 2 ≤ ss.length) : (ss.take (half ss.length)).length = half ss.length := by
  have := half_lt ss.length h
  rw [List.length_take]; omega
theorem drop_half (ss : List ByteArray) : (ss.drop (half ss.length)).length = ss.length - half ss.length := by rw [List.length_drop]

theorem pathF_eq : ∀ (f : Nat) (ss : List ByteArray) (i : Nat), ss.length ≤ f → pathF f ss i = path ss i := by
  intro f
  induction f using Nat.strongRecOn with
  | ind f ih =>
    intro ss i h
    unfold path
    match f, hss : ss.length with
    | 0, 0 => rfl
    | 0, n + 1 => omega
    | f + 1, 0 => simp [pathF, hss]
    | f + 1, n + 1 =>
      simp only [pathF, hss, Nat.succ_eq_add_one]
      by_cases h1 : n + 1 ≤ 1
      · simp [h1]
      · have hp := half_pos (n + 1)
        have hl := half_lt (n + 1) (by omega)
        have e1 : (ss.take (half (n + 1))).length = half (n + 1) := by rw [List.length_take]; omega
        have e2 : (ss.drop (half (n + 1))).length = n + 1 - half (n + 1) := by rw [List.length_drop]; omega
        simp only [if_neg h1]
        rw [ih f (by omega) _ _ (by omega), ih f (by omega) _ _ (by omega), ih n (by omega) _ _ (by omega), ih n (by omega) _ _ (by omega)]
theorem path_one (ss : List ByteArray) (i : Nat) (h : ss.length ≤ 1) : path ss i = [] := by
  unfold path
  match hn : ss.length with
  | 0 => rfl
  | n + 1 => simp [pathF, h]
theorem path_left (ss : List ByteArray) (i : Nat) (h : 2 ≤ ss.length) (hi : i < half ss.length) : path ss i = path (ss.take (half ss.length)) i ++ [root (ss.drop (half ss.length))] := by
  have hl := half_lt ss.length h
  obtain ⟨n, hn⟩ : ∃ n, ss.length = n + 2 := ⟨ss.length - 2, by omega⟩
  have e1 := take_half ss h
  rw [← pathF_eq (n + 1) (ss.take (half ss.length)) i (by omega)]
  unfold path
  rw [hn] at hi ⊢
  simp [pathF, hn, hi]
theorem path_right (ss : List ByteArray) (i : Nat) (h : 2 ≤ ss.length) (hi : ¬ i < half ss.length) : path ss i = path (ss.drop (half ss.length)) (i - half ss.length) ++ [root (ss.take (half ss.length))] := by
  have hl := half_pos ss.length
  obtain ⟨n, hn⟩ : ∃ n, ss.length = n + 2 := ⟨ss.length - 2, by omega⟩
  have e1 := drop_half ss
  rw [← pathF_eq (n + 1) (ss.drop (half ss.length)) _ (by omega)]
  unfold path
  rw [hn] at hi ⊢
  simp [pathF, hn, hi]

def partsF : Nat → List ByteArray → Nat → Bool → List ByteArray
  | 0, _, _, _ => []
  | f + 1, ss, m, b =>
    if m = ss.length then (if b = true then [] else [root ss])
    else if m ≤ half ss.length then partsF f (ss.take (half ss.length)) m b ++ [root (ss.drop (half ss.length))]
    else partsF f (ss.drop (half ss.length)) (m - half ss.length) false ++ [root (ss.take (half ss.length))]
/-- PARTS(m, n, whole). (A row of nothing is of no concern.) -/
def parts (ss : List ByteArray) (m : Nat) (b : Bool) : List ByteArray := partsF ss.length ss m b

theorem partsF_eq : ∀ (f : Nat) (ss : List ByteArray) (m : Nat) (b : Bool), 1 ≤ m → m ≤ ss.length → ss.length ≤ f → partsF f ss m b = parts ss m b := by
  intro f
  induction f using Nat.strongRecOn with
  | ind f ih =>
    intro ss m b hm1 hm2 h
    unfold parts
    match f, hss : ss.length with
    | 0, n => omega
    | f + 1, 0 => omega
    | f + 1, n + 1 =>
      simp only [partsF, hss, Nat.succ_eq_add_one]
      by_cases h1 : m = n + 1
      · simp [h1]
      · have hp := half_pos (n + 1)
        have hl := half_lt (n + 1) (by omega)
        have e1 : (ss.take (half (n + 1))).length = half (n + 1) := by rw [List.length_take]; omega
        have e2 : (ss.drop (half (n + 1))).length = n + 1 - half (n + 1) := by rw [List.length_drop]; omega
        simp only [if_neg h1]
        by_cases h2 : m ≤ half (n + 1)
        · simp only [if_pos h2]
          rw [ih f (by omega) _ _ _ hm1 (by omega) (by omega), ih n (by omega) _ _ _ hm1 (by omega) (by omega)]
        · simp only [if_neg h2]
          rw [ih f (by omega) _ _ _ (by omega) (by omega) (by omega), ih n (by omega) _ _ _ (by omega) (by omega) (by omega)]
theorem parts_whole (ss : List ByteArray) (m : Nat) (h1 : 1 ≤ m) (h : m = ss.length) : parts ss m true = [] := by
  unfold parts
  match hn : ss.length with
  | 0 => omega
  | n + 1 => simp [partsF, hn, h]
theorem parts_root (ss : List ByteArray) (m : Nat) (h1 : 1 ≤ m) (h : m = ss.length) : parts ss m false = [root ss] := by
  unfold parts
  match hn : ss.length with
  | 0 => omega
  | n + 1 => simp [partsF, hn, h]
theorem parts_left (ss : List ByteArray) (m : Nat) (b : Bool) (h1 : 1 ≤ m) (h : m < ss.length) (hi : m ≤ half ss.length) : parts ss m b = parts (ss.take (half ss.length)) m b ++ [root (ss.drop (half ss.length))] := by
  have hl := half_lt ss.length (by omega)
  obtain ⟨n, hn⟩ : ∃ n, ss.length = n + 2 := ⟨ss.length - 2, by omega⟩
  have e1 := take_half ss (by omega)
  rw [← partsF_eq (n + 1) (ss.take (half ss.length)) m b h1 (by omega) (by omega)]
  unfold parts
  have hne : ¬ m = n + 2 := by omega
  rw [hn] at hi ⊢
  simp [partsF, hn, hi, hne]
theorem parts_right (ss : List ByteArray) (m : Nat) (b : Bool) (h : m < ss.length) (hi : ¬ m ≤ half ss.length) : parts ss m b = parts (ss.drop (half ss.length)) (m - half ss.length) false ++ [root (ss.take (half ss.length))] := by
  have hl := half_pos ss.length
  obtain ⟨n, hn⟩ : ∃ n, ss.length = n + 2 := ⟨ss.length - 2, by omega⟩
  have e1 := drop_half ss
  rw [← partsF_eq (n + 1) (ss.drop (half ss.length)) _ false (by omega) (by omega) (by omega)]
  unfold parts
  have hne : ¬ m = n + 2 := by omega
  rw [hn] at hi ⊢
  simp [partsF, hn, hi, hne]
/-- Paths are short. -/
theorem path_length : ∀ (n : Nat) (ss : List ByteArray) (i : Nat), ss.length ≤ n → (path ss i).length ≤ ss.length := by
  intro n
  induction n with
  | zero => intro ss i h; rw [path_one ss i (by omega)]; simp
  | succ n ih =>
    intro ss i h
    by_cases h1 : ss.length ≤ 1
    · rw [path_one ss i h1]; simp
    · have hp := half_pos ss.length
      have hl := half_lt ss.length (by omega)
      have e1 := take_half ss (by omega)
      have e2 := drop_half ss
      by_cases h2 : i < half ss.length
      · rw [path_left ss i (by omega) h2, List.length_append, List.length_singleton]
        have := ih (ss.take (half ss.length)) i (by omega)
        omega
      · rw [path_right ss i (by omega) h2, List.length_append, List.length_singleton]
        have := ih (ss.drop (half ss.length)) (i - half ss.length) (by omega)
        omega
theorem parts_length : ∀ (n : Nat) (ss : List ByteArray) (m : Nat) (b : Bool), ss.length ≤ n → 1 ≤ m → m ≤ ss.length → (parts ss m b).length ≤ ss.length := by
  intro n
  induction n with
  | zero => intro ss m b h h1 h2; omega
  | succ n ih =>
    intro ss m b h h1 h2
    by_cases hm : m = ss.length
    · cases b with
      | true => rw [parts_whole ss m h1 hm]; simp
      | false => rw [parts_root ss m h1 hm]; simp; omega
    · have hp := half_pos ss.length
      have hl := half_lt ss.length (by omega)
      have e1 := take_half ss (by omega)
      have e2 := drop_half ss
      by_cases h3 : m ≤ half ss.length
      · rw [parts_left ss m b h1 (by omega) h3, List.length_append, List.length_singleton]
        have := ih (ss.take (half ss.length)) m b (by omega) h1 (by omega)
        omega
      · rw [parts_right ss m b (by omega) h3, List.length_append, List.length_singleton]
        have := ih (ss.drop (half ss.length)) (m - half ss.length) false (by omega) (by omega) (by omega)
        omega
/-- Each part of a path is as long as a sum. -/
theorem path_sizes : ∀ (n : Nat) (ss : List ByteArray) (i : Nat), ss.length ≤ n → ∀ s ∈ path ss i, s.size = 4 := by
  intro n
  induction n with
  | zero => intro ss i h s hs; rw [path_one ss i (by omega)] at hs; cases hs
  | succ n ih =>
    intro ss i h s hs
    by_cases h1 : ss.length ≤ 1
    · rw [path_one ss i h1] at hs; cases hs
    · have hp := half_pos ss.length
      have hl := half_lt ss.length (by omega)
      have e1 := take_half ss (by omega)
      have e2 := drop_half ss
      by_cases h2 : i < half ss.length
      · rw [path_left ss i (by omega) h2, List.mem_append, List.mem_singleton] at hs
        rcases hs with hs | rfl
        · exact ih _ _ (by omega) s hs
        · exact root_size _
      · rw [path_right ss i (by omega) h2, List.mem_append, List.mem_singleton] at hs
        rcases hs with hs | rfl
        · exact ih _ _ (by omega) s hs
        · exact root_size _
theorem parts_sizes : ∀ (n : Nat) (ss : List ByteArray) (m : Nat) (b : Bool), ss.length ≤ n → 1 ≤ m → m ≤ ss.length → ∀ s ∈ parts ss m b, s.size = 4 := by
  intro n
  induction n with
  | zero => intro ss m b h h1 h2; omega
  | succ n ih =>
    intro ss m b h h1 h2 s hs
    by_cases hm : m = ss.length
    · cases b with
      | true => rw [parts_whole ss m h1 hm] at hs; cases hs
      | false => rw [parts_root ss m h1 hm, List.mem_singleton] at hs; rw [hs]; exact root_size _
    · have hp := half_pos ss.length
      have hl := half_lt ss.length (by omega)
      have e1 := take_half ss (by omega)
      have e2 := drop_half ss
      by_cases h3 : m ≤ half ss.length
      · rw [parts_left ss m b h1 (by omega) h3, List.mem_append, List.mem_singleton] at hs
        rcases hs with hs | rfl
        · exact ih _ _ _ (by omega) h1 (by omega) s hs
        · exact root_size _
      · rw [parts_right ss m b (by omega) h3, List.mem_append, List.mem_singleton] at hs
        rcases hs with hs | rfl
        · exact ih _ _ _ (by omega) (by omega) (by omega) s hs
        · exact root_size _
end Go.Proofs.YtkhnjipjbhcgdaaGreat.Pl
