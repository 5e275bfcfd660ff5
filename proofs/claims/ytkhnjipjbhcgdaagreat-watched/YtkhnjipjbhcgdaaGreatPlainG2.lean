import Derived.Test.YtkhnjipjbhcgdaaGreatPlainG
/-
  THE PLAIN MATHEMATICS: the texts of which sums are taken, from below.
-/
namespace Go.Proofs.YtkhnjipjbhcgdaaGreat.Pl

/-- The texts of one part more. -/
def standT (rs : List ByteArray) (s : Bool) (p : ByteArray) : List ByteArray :=
  if s = true then rs.map (fun r => textN p r) else [textN (rs.getLastD ByteArray.empty) p]
/-- The texts of all parts, from below. -/
def climbT : List ByteArray → List Bool → List ByteArray → List ByteArray
  | rs, s :: S, p :: P => standT rs s p ++ climbT (stand rs s p) S P
  | _, _, _ => []
theorem climbT_snoc : ∀ (S : List Bool) (P rs : List ByteArray) (s : Bool) (p : ByteArray), P.length = S.length → climbT rs (S ++ [s]) (P ++ [p]) = climbT rs S P ++ standT (climb rs S P) s p := by
  intro S
  induction S with
  | nil =>
    intro P rs s p h
    obtain rfl : P = [] := List.length_eq_zero_iff.1 h
    show standT rs s p ++ [] = [] ++ standT rs s p
    simp
  | cons t S ih =>
    intro P rs s p h
    match P, h with
    | q :: P, h =>
      show standT rs t q ++ climbT (stand rs t q) (S ++ [s]) (P ++ [p]) = (standT rs t q ++ climbT (stand rs t q) S P) ++ standT (climb (stand rs t q) S P) s p
      rw [ih P _ s p (by simpa using h), List.append_assoc]
theorem climbT_take (S : List Bool) (P rs : List ByteArray) (k : Nat) (hS : k < S.length) (hP : k < P.length) : climbT rs (S.take (k + 1)) (P.take (k + 1)) = climbT rs (S.take k) (P.take k) ++ standT (climb rs (S.take k) (P.take k)) S[k] P[k] := by
  rw [List.take_succ_eq_append_getElem hS, List.take_succ_eq_append_getElem hP, climbT_snoc _ _ _ _ _ (by simp; omega)]
theorem standT_length (rs : List ByteArray) (s : Bool) (p : ByteArray) (h : rs.length ≤ 2) : (standT rs s p).length ≤ 2 := by
  unfold standT
  split <;> simp
  exact h
theorem climbT_length : ∀ (S : List Bool) (P rs : List ByteArray), 0 < rs.length → rs.length ≤ 2 → (climbT rs S P).length ≤ 2 * S.length := by
  intro S
  induction S with
  | nil => intro P rs _ _; simp [climbT]
  | cons t S ih =>
    intro P rs h0 h2
    match P with
    | [] => simp [climbT]
    | q :: P =>
      have hl := stand_length rs t q h0
      have h := ih P (stand rs t q) (by omega) (by omega)
      have h3 := standT_length rs t q h2
      show (standT rs t q ++ climbT (stand rs t q) S P).length ≤ _
      rw [List.length_append, List.length_cons]
      omega
theorem size_textN (a b : ByteArray) : (textN a b).size = 1 + a.size + b.size := by
  unfold textN
  simp only [ByteArray.size_append]
  rfl
theorem sumB_four (t : ByteArray) : (sumB t).size = 4 := rfl
theorem isSumB_four {s : ByteArray} (h : isSumB s = true) : s.size = 4 := by
  unfold isSumB at h
  rw [Bool.and_eq_true, decide_eq_true_iff] at h
  exact h.1
theorem stand_four (rs : List ByteArray) (s : Bool) (p : ByteArray) (hz : ∀ r ∈ rs, r.size = 4) : ∀ r ∈ stand rs s p, r.size = 4 := by
  intro r hr
  unfold stand at hr
  split at hr
  · simp only [List.mem_map] at hr
    obtain ⟨x, _, rfl⟩ := hr
    rfl
  · rw [List.mem_append] at hr
    rcases hr with hr | hr
    · exact hz r (List.dropLast_subset _ hr)
    · simp only [List.mem_singleton] at hr
      rw [hr]
      rfl
theorem standT_size (rs : List ByteArray) (s : Bool) (p : ByteArray) (hz : ∀ r ∈ rs, r.size = 4) (hp : p.size = 4) : ∀ t ∈ standT rs s p, t.size ≤ 9 := by
  intro t ht
  unfold standT at ht
  split at ht
  · simp only [List.mem_map] at ht
    obtain ⟨x, hx, rfl⟩ := ht
    rw [size_textN, hp, hz x hx]
    omega
  · simp only [List.mem_singleton] at ht
    rw [ht, size_textN, hp]
    have : (rs.getLastD ByteArray.empty).size ≤ 4 := by
      rw [List.getLastD_eq_getLast?]
      cases hg : rs.getLast? with
      | none => simp
      | some x =>
        have hx := List.mem_of_getLast? hg
        simp [hz x hx]
    omega
theorem climbT_size : ∀ (S : List Bool) (P rs : List ByteArray), (∀ r ∈ rs, r.size = 4) → P.all isSumB = true → ∀ t ∈ climbT rs S P, t.size ≤ 9 := by
  intro S
  induction S with
  | nil => intro P rs _ _ t ht; simp [climbT] at ht
  | cons s S ih =>
    intro P rs hz hP t ht
    match P, hP with
    | [], _ => simp [climbT] at ht
    | q :: P, hP =>
      rw [List.all_cons, Bool.and_eq_true] at hP
      have ht' : t ∈ standT rs s q ++ climbT (stand rs s q) S P := ht
      rcases List.mem_append.1 ht' with h | h
      · exact standT_size rs s q hz (isSumB_four hP.1) t h
      · exact ih P _ (stand_four rs s q hz) hP.2 t h
theorem climbB_len2 {S : List Bool} {P : List ByteArray} (h : climbB S P = true) : P.length = S.length := by
  unfold climbB at h
  rw [Bool.and_eq_true, decide_eq_true_iff] at h
  exact h.1
theorem climb_is_one (r : ByteArray) (S : List Bool) (P : List ByteArray) : ∃ c, climb [r] S P = [c] := by
  have hcl : (climb [r] S P).length = 1 := climb_length _ _ _ (by simp)
  match climb [r] S P, hcl with
  | [c], _ => exact ⟨c, rfl⟩
theorem climb_is_two (r : ByteArray) (S : List Bool) (P : List ByteArray) : ∃ a b, climb [r, r] S P = [a, b] := by
  have hcl : (climb [r, r] S P).length = 2 := climb_length _ _ _ (by simp)
  match climb [r, r] S P, hcl with
  | [a, b], _ => exact ⟨a, b, rfl⟩

/-- The texts of a leaf, from below. -/
theorem leafT_texts (leaf : ByteArray) : ∀ (n i : Nat) (p t : List ByteArray) (r : ByteArray), 1 ≤ n → i < n → leafT leaf i n p = some (t, r) →
    climbB (lsides i n) p = true ∧ climb [sumB (textL leaf)] (lsides i n) p = [r] ∧ t = textL leaf :: climbT [sumB (textL leaf)] (lsides i n) p := by
  intro n
  induction n using Nat.strongRecOn with
  | ind n ih =>
    intro i p t r h1 hi h
    have hc := leafT_climb leaf n i p h1 hi
    rw [h] at hc
    have hB : climbB (lsides i n) p = true := by
      cases hb : climbB (lsides i n) p with
      | true => rfl
      | false => rw [hb] at hc; simp at hc
    rw [hB, if_pos rfl] at hc
    obtain ⟨c, hcc⟩ := climb_is_one (sumB (textL leaf)) (lsides i n) p
    have hr : climb [sumB (textL leaf)] (lsides i n) p = [r] := by
      rw [hcc] at hc ⊢
      have : r = c := by simpa using hc
      rw [this]
    refine ⟨hB, hr, ?_⟩
    by_cases hn : n = 1
    · subst hn
      rw [leafT_one] at h
      split at h
      · rename_i hp
        subst hp
        simp only [Option.some.injEq, Prod.mk.injEq] at h
        rw [← h.1]
        rfl
      · cases h
    · have hp := half_pos n
      have hl := half_lt n (by omega)
      by_cases hq : p = []
      · subst hq
        rw [leafT_more leaf i n [] (by omega)] at h
        simp at h
      · obtain ⟨q, l, rfl⟩ := snoc_of p hq
        rw [leafT_more leaf i n _ (by omega)] at h
        simp only [List.getLast?_concat, List.dropLast_concat] at h
        split at h
        · cases h
        · by_cases hh : i < half n
          · rw [if_pos hh] at h
            split at h
            · cases h
            · rename_i t' r' hx
              obtain ⟨b', c', e'⟩ := ih (half n) hl i q t' r' hp hh hx
              simp only [Option.some.injEq, Prod.mk.injEq] at h
              rw [lsides_more i n (by omega), if_pos hh, climbT_snoc _ _ _ _ _ (climbB_len2 b'), c', ← h.1, e']
              rfl
          · rw [if_neg hh] at h
            split at h
            · cases h
            · rename_i t' r' hx
              obtain ⟨b', c', e'⟩ := ih (n - half n) (by omega) (i - half n) q t' r' (by omega) (by omega) hx
              simp only [Option.some.injEq, Prod.mk.injEq] at h
              rw [lsides_more i n (by omega), if_neg hh, climbT_snoc _ _ _ _ _ (climbB_len2 b'), c', ← h.1, e']
              rfl

/-- The texts of a growth, from below. -/
def growthT (old : ByteArray) (S : List Bool) (whole : Bool) (p : List ByteArray) : List ByteArray :=
  if (whole && !(S.contains true)) = true then climbT [old, old] S p
  else match p with
    | [] => []
    | s :: r => climbT [s, s] S r
theorem growthT_right (old : ByteArray) (S : List Bool) (whole : Bool) (p : List ByteArray) : growthT old (S ++ [true]) whole p = growthT old (S ++ [true]) false p := by
  unfold growthT
  have : (S ++ [true]).contains true = true := by simp
  rw [this]
  simp
theorem growthT_snoc (old : ByteArray) (S : List Bool) (whole s : Bool) (q : List ByteArray) (l : ByteArray) (hw : s = true → whole = true → False) (a b : ByteArray) (h : growth old S whole q = some (a, b)) :
    growthT old (S ++ [s]) whole (q ++ [l]) = growthT old S whole q ++ (if s = true then [textN l a, textN l b] else [textN b l]) := by
  have hcont : (whole && !((S ++ [s]).contains true)) = (whole && !(S.contains true)) := by
    cases s with
    | false => simp
    | true =>
      cases whole with
      | false => rfl
      | true => exact (hw rfl rfl).elim
  unfold growth at h
  unfold growthT
  rw [hcont]
  by_cases hc : (whole && !(S.contains true)) = true
  · rw [if_pos hc] at h
    rw [if_pos hc, if_pos hc]
    by_cases hb : climbB S q = true
    · rw [if_pos hb] at h
      obtain ⟨x, y, hxy⟩ := climb_is_two old S q
      rw [hxy] at h
      have h' : x = a ∧ y = b := by simpa using h
      rw [climbT_snoc _ _ _ _ _ (climbB_len2 hb), hxy, h'.1, h'.2]
      cases s <;> rfl
    · rw [if_neg hb] at h; cases h
  · rw [if_neg hc] at h
    rw [if_neg hc, if_neg hc]
    match q, h with
    | [], h => cases h
    | t :: r, h =>
      have h : (if isSumB t = true then (if climbB S r = true then some ((climb [t, t] S r).getD 0 ByteArray.empty, (climb [t, t] S r).getD 1 ByteArray.empty) else none) else none) = some (a, b) := h
      by_cases ht : isSumB t = true
      · rw [if_pos ht] at h
        by_cases hb : climbB S r = true
        · rw [if_pos hb] at h
          obtain ⟨x, y, hxy⟩ := climb_is_two t S r
          rw [hxy] at h
          have h' : x = a ∧ y = b := by simpa using h
          show climbT [t, t] (S ++ [s]) (r ++ [l]) = climbT [t, t] S r ++ _
          rw [climbT_snoc _ _ _ _ _ (climbB_len2 hb), hxy, h'.1, h'.2]
          cases s <;> rfl
        · rw [if_neg hb] at h; cases h
      · rw [if_neg ht] at h; cases h
theorem bothT_texts (old : ByteArray) : ∀ (n m : Nat) (whole : Bool) (p t : List ByteArray) (a b : ByteArray), 1 ≤ m → m ≤ n → bothT old m n whole p = some (t, a, b) → t = growthT old (gsides m n) whole p := by
  intro n
  induction n using Nat.strongRecOn with
  | ind n ih =>
    intro m whole p t a b h1 h2 h
    by_cases hmn : m = n
    · subst hmn
      rw [gsides_all]
      cases whole with
      | true =>
        rw [bothT_whole _ _ _ h1] at h
        split at h
        · rename_i hp
          subst hp
          simp only [Option.some.injEq, Prod.mk.injEq] at h
          rw [← h.1]
          rfl
        · cases h
      | false =>
        rw [bothT_part _ _ _ h1] at h
        split at h
        · cases h
        · split at h
          · cases h
          · split at h
            · rename_i hp
              simp only [Option.some.injEq, Prod.mk.injEq] at h
              match p, hp with
              | [x], _ =>
                rw [← h.1]
                rfl
            · cases h
    · have hp := half_pos n
      have hl := half_lt n (by omega)
      rw [gsides_more m n h1 (by omega)]
      by_cases hq : p = []
      · subst hq
        rw [bothT_more old m n whole [] h1 (by omega)] at h
        simp at h
      · obtain ⟨q, l, rfl⟩ := snoc_of p hq
        rw [bothT_more old m n whole _ h1 (by omega)] at h
        simp only [List.getLast?_concat, List.dropLast_concat] at h
        split at h
        · cases h
        · by_cases hm : m ≤ half n
          · rw [if_pos hm] at h
            split at h
            · cases h
            · rename_i t' a' b' hx
              have IH := ih (half n) hl m whole q t' a' b' h1 hm hx
              have hg := bothT_growth old (half n) m whole q h1 hm
              rw [hx] at hg
              simp only [Option.some.injEq, Prod.mk.injEq] at h
              rw [if_pos hm, growthT_snoc _ _ _ _ _ _ (fun h _ => by cases h) a' b' hg.symm, ← h.1, IH]
              rfl
          · rw [if_neg hm] at h
            split at h
            · cases h
            · rename_i t' a' b' hx
              have IH := ih (n - half n) (by omega) (m - half n) false q t' a' b' (by omega) (by omega) hx
              have hg := bothT_growth old (n - half n) (m - half n) false q (by omega) (by omega)
              rw [hx] at hg
              simp only [Option.some.injEq, Prod.mk.injEq] at h
              rw [if_neg hm, growthT_right, growthT_snoc _ _ _ _ _ _ (fun _ h => by cases h) a' b' hg.symm, ← h.1, IH]
              rfl
end Go.Proofs.YtkhnjipjbhcgdaaGreat.Pl
