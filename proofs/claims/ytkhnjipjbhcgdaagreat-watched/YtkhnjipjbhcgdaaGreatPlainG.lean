import Derived.Test.YtkhnjipjbhcgdaaGreatPlainS
/-
  THE PLAIN MATHEMATICS: what a path folds to, from below: the sides at which the parts stand, and the roots that they make.
-/
namespace Go.Proofs.YtkhnjipjbhcgdaaGreat.Pl

/-- Where the leaf at i of n stands, from below: true: to the right. -/
def lsidesF : Nat → Nat → Nat → List Bool
  | 0, _, _ => []
  | f + 1, i, n => if n ≤ 1 then [] else if i < half n then lsidesF f i (half n) ++ [false] else lsidesF f (i - half n) (n - half n) ++ [true]
def lsides (i n : Nat) : List Bool := lsidesF n i n
theorem lsidesF_eq : ∀ (f i n : Nat), n ≤ f → lsidesF f i n = lsides i n := by
  intro f
  induction f using Nat.strongRecOn with
  | ind f ih =>
    intro i n h
    unfold lsides
    match f, n with
    | 0, 0 => rfl
    | 0, n + 1 => omega
    | f + 1, 0 => simp [lsidesF]
    | f + 1, n + 1 =>
      simp only [lsidesF]
      by_cases hn : n + 1 ≤ 1
      · simp [hn]
      · have hp := half_pos (n + 1)
        have hl := half_lt (n + 1) (by omega)
        simp only [if_neg hn]
        rw [ih f (by omega) i (half (n + 1)) (by omega), ih f (by omega) (i - half (n + 1)) (n + 1 - half (n + 1)) (by omega), ih n (by omega) i (half (n + 1)) (by omega), ih n (by omega) (i - half (n + 1)) (n + 1 - half (n + 1)) (by omega)]
theorem lsides_one (i : Nat) : lsides i 1 = [] := rfl
theorem lsides_more (i n : Nat) (h : 2 ≤ n) : lsides i n = if i < half n then lsides i (half n) ++ [false] else lsides (i - half n) (n - half n) ++ [true] := by
  have hp := half_pos n
  have hl := half_lt n h
  obtain ⟨k, rfl⟩ : ∃ k, n = k + 2 := ⟨n - 2, by omega⟩
  rw [← lsidesF_eq (k + 1) i (half (k + 2)) (by omega), ← lsidesF_eq (k + 1) (i - half (k + 2)) (k + 2 - half (k + 2)) (by omega)]
  conv => lhs; unfold lsides; unfold lsidesF
  rw [if_neg (by omega)]
theorem lsides_length : ∀ (n i : Nat), (lsides i n).length ≤ n := by
  intro n
  induction n using Nat.strongRecOn with
  | ind n ih =>
    intro i
    by_cases h : n ≤ 1
    · match n, h with
      | 0, _ => exact Nat.le_refl _
      | 1, _ => rw [lsides_one]; simp
    · have hp := half_pos n
      have hl := half_lt n (by omega)
      rw [lsides_more i n (by omega)]
      split
      · have := ih (half n) (by omega) i
        simp; omega
      · have := ih (n - half n) (by omega) (i - half n)
        simp; omega

/-- Where the greatest part stands that ends with the m-th of n leaves, from below. -/
def gsidesF : Nat → Nat → Nat → List Bool
  | 0, _, _ => []
  | f + 1, m, n => if m = n then [] else if m ≤ half n then gsidesF f m (half n) ++ [false] else gsidesF f (m - half n) (n - half n) ++ [true]
def gsides (m n : Nat) : List Bool := gsidesF n m n
theorem gsidesF_eq : ∀ (f m n : Nat), 1 ≤ m → m ≤ n → n ≤ f → gsidesF f m n = gsides m n := by
  intro f
  induction f using Nat.strongRecOn with
  | ind f ih =>
    intro m n h1 h2 h
    unfold gsides
    match f, n with
    | 0, n => omega
    | f + 1, 0 => omega
    | f + 1, n + 1 =>
      simp only [gsidesF]
      by_cases hn : m = n + 1
      · simp [hn]
      · have hp := half_pos (n + 1)
        have hl := half_lt (n + 1) (by omega)
        simp only [if_neg hn]
        by_cases hm : m ≤ half (n + 1)
        · simp only [if_pos hm]
          rw [ih f (by omega) m (half (n + 1)) h1 hm (by omega), ih n (by omega) m (half (n + 1)) h1 hm (by omega)]
        · simp only [if_neg hm]
          rw [ih f (by omega) (m - half (n + 1)) (n + 1 - half (n + 1)) (by omega) (by omega) (by omega), ih n (by omega) (m - half (n + 1)) (n + 1 - half (n + 1)) (by omega) (by omega) (by omega)]
theorem gsides_all (n : Nat) : gsides n n = [] := by
  unfold gsides
  cases n with
  | zero => rfl
  | succ n => simp [gsidesF]
theorem gsides_more (m n : Nat) (h1 : 1 ≤ m) (h : m < n) : gsides m n = if m ≤ half n then gsides m (half n) ++ [false] else gsides (m - half n) (n - half n) ++ [true] := by
  have hp := half_pos n
  have hl := half_lt n (by omega)
  obtain ⟨k, rfl⟩ : ∃ k, n = k + 2 := ⟨n - 2, by omega⟩
  conv => lhs; unfold gsides; unfold gsidesF
  rw [if_neg (by omega)]
  by_cases hm : m ≤ half (k + 2)
  · simp only [if_pos hm]
    rw [gsidesF_eq (k + 1) m (half (k + 2)) h1 hm (by omega)]
  · simp only [if_neg hm]
    rw [gsidesF_eq (k + 1) (m - half (k + 2)) (k + 2 - half (k + 2)) (by omega) (by omega) (by omega)]
theorem gsides_length : ∀ (n m : Nat), 1 ≤ m → m ≤ n → (gsides m n).length ≤ n := by
  intro n
  induction n using Nat.strongRecOn with
  | ind n ih =>
    intro m h1 h2
    by_cases h : m = n
    · subst h; rw [gsides_all]; simp
    · have hp := half_pos n
      have hl := half_lt n (by omega)
      rw [gsides_more m n h1 (by omega)]
      by_cases hm : m ≤ half n
      · rw [if_pos hm]
        have := ih (half n) (by omega) m h1 hm
        simp; omega
      · rw [if_neg hm]
        have := ih (n - half n) (by omega) (m - half n) (by omega) (by omega)
        simp; omega

/-- One part more: to the right all roots go on, to the left the last one. -/
def stand (rs : List ByteArray) (s : Bool) (p : ByteArray) : List ByteArray :=
  if s = true then rs.map (fun r => sumB (textN p r)) else rs.dropLast ++ [sumB (textN (rs.getLastD ByteArray.empty) p)]
/-- All parts, from below. -/
def climb : List ByteArray → List Bool → List ByteArray → List ByteArray
  | rs, s :: S, p :: P => climb (stand rs s p) S P
  | rs, _, _ => rs
/-- Is there a part for each side, and each a sum? -/
def climbB (S : List Bool) (P : List ByteArray) : Bool := decide (P.length = S.length) && P.all isSumB
theorem stand_one (r : ByteArray) (s : Bool) (p : ByteArray) : stand [r] s p = [if s = true then sumB (textN p r) else sumB (textN r p)] := by
  cases s <;> rfl
theorem stand_two (a b : ByteArray) (s : Bool) (p : ByteArray) : stand [a, b] s p = if s = true then [sumB (textN p a), sumB (textN p b)] else [a, sumB (textN b p)] := by
  cases s <;> rfl
theorem stand_length (rs : List ByteArray) (s : Bool) (p : ByteArray) (h : 0 < rs.length) : (stand rs s p).length = rs.length := by
  unfold stand
  split
  · simp
  · simp; omega
theorem climb_snoc : ∀ (S : List Bool) (P rs : List ByteArray) (s : Bool) (p : ByteArray), P.length = S.length → climb rs (S ++ [s]) (P ++ [p]) = stand (climb rs S P) s p := by
  intro S
  induction S with
  | nil =>
    intro P rs s p h
    obtain rfl : P = [] := List.length_eq_zero_iff.1 h
    rfl
  | cons t S ih =>
    intro P rs s p h
    match P, h with
    | q :: P, h => exact ih P _ s p (by simpa using h)
theorem climb_length : ∀ (S : List Bool) (P rs : List ByteArray), 0 < rs.length → (climb rs S P).length = rs.length := by
  intro S
  induction S with
  | nil => intro P rs _; unfold climb; rfl
  | cons t S ih =>
    intro P rs h
    match P with
    | [] => rfl
    | q :: P =>
      have hl := stand_length rs t q h
      show (climb (stand rs t q) S P).length = _
      rw [ih P _ (by omega), hl]
theorem climb_take : ∀ (S : List Bool) (P rs : List ByteArray) (k : Nat) (hS : k < S.length) (hP : k < P.length), climb rs (S.take (k + 1)) (P.take (k + 1)) = stand (climb rs (S.take k) (P.take k)) S[k] P[k] := by
  intro S P rs k hS hP
  rw [List.take_succ_eq_append_getElem hS, List.take_succ_eq_append_getElem hP, climb_snoc _ _ _ _ _ (by simp; omega)]
theorem climbB_snoc (S : List Bool) (P : List ByteArray) (s : Bool) (p : ByteArray) : climbB (S ++ [s]) (P ++ [p]) = (isSumB p && climbB S P) := by
  unfold climbB
  simp only [List.length_append, List.length_singleton, List.all_append, List.all_cons, List.all_nil, Bool.and_true]
  have : decide (P.length + 1 = S.length + 1) = decide (P.length = S.length) := by simp
  rw [this]
  cases isSumB p <;> cases decide (P.length = S.length) <;> cases P.all isSumB <;> rfl
theorem climbB_nil (S : List Bool) (s : Bool) : climbB (S ++ [s]) [] = false := by
  unfold climbB
  simp

theorem snoc_of (p : List ByteArray) (h : p ≠ []) : ∃ q l, p = q ++ [l] := ⟨p.dropLast, p.getLast h, (List.dropLast_concat_getLast h).symm⟩

/-- What a leaf folds to, from below. -/
theorem leafT_climb (leaf : ByteArray) : ∀ (n i : Nat) (p : List ByteArray), 1 ≤ n → i < n →
    (leafT leaf i n p).map (·.2) = if climbB (lsides i n) p = true then some ((climb [sumB (textL leaf)] (lsides i n) p).getD 0 ByteArray.empty) else none := by
  intro n
  induction n using Nat.strongRecOn with
  | ind n ih =>
    intro i p h1 hi
    by_cases hn : n = 1
    · subst hn
      rw [leafT_one, lsides_one]
      by_cases hp : p = []
      · subst hp; rfl
      · rw [if_neg hp]
        have : climbB [] p = false := by
          unfold climbB
          have : ¬ p.length = 0 := fun h => hp (List.length_eq_zero_iff.1 h)
          simp [this]
        rw [this]
        rfl
    · have hp := half_pos n
      have hl := half_lt n (by omega)
      rw [lsides_more i n (by omega)]
      by_cases hq : p = []
      · subst hq
        rw [leafT_more leaf i n [] (by omega)]
        simp only [List.getLast?_nil]
        by_cases hh : i < half n
        · rw [if_pos hh, climbB_nil]; rfl
        · rw [if_neg hh, climbB_nil]; rfl
      · obtain ⟨q, l, rfl⟩ := snoc_of p hq
        rw [leafT_more leaf i n _ (by omega)]
        simp only [List.getLast?_concat, List.dropLast_concat]
        have key : ∀ (i' n' : Nat) (s : Bool), n' < n → 1 ≤ n' → i' < n' →
            (Option.map (·.2) (if isSumB l = false then none else match leafT leaf i' n' q with
              | none => none
              | some (t, r) => some (t ++ [if s = true then textN l r else textN r l], sumB (if s = true then textN l r else textN r l)))) =
            if climbB (lsides i' n' ++ [s]) (q ++ [l]) = true then some ((climb [sumB (textL leaf)] (lsides i' n' ++ [s]) (q ++ [l])).getD 0 ByteArray.empty) else none := by
          intro i' n' s hn' h1' hi'
          have IH := ih n' hn' i' q h1' hi'
          rw [climbB_snoc]
          cases hs : isSumB l with
          | false => rfl
          | true =>
            rw [Bool.true_and]
            cases hc : climbB (lsides i' n') q with
            | false =>
              rw [hc] at IH
              rw [if_neg (by simp), if_neg (by simp)]
              cases hT : leafT leaf i' n' q with
              | none => rfl
              | some x => rw [hT] at IH; simp at IH
            | true =>
              rw [hc, if_pos rfl] at IH
              have hlen : q.length = (lsides i' n').length := by
                unfold climbB at hc
                rw [Bool.and_eq_true, decide_eq_true_iff] at hc
                exact hc.1
              have hcl : (climb [sumB (textL leaf)] (lsides i' n') q).length = 1 := climb_length _ _ _ (by simp)
              cases hT : leafT leaf i' n' q with
              | none => rw [hT] at IH; simp at IH
              | some x =>
                obtain ⟨t, r⟩ := x
                rw [hT] at IH
                have hr : r = (climb [sumB (textL leaf)] (lsides i' n') q).getD 0 ByteArray.empty := by simpa using IH
                rw [if_neg (by simp), if_pos rfl, climb_snoc _ _ _ _ _ hlen]
                obtain ⟨c, hcc⟩ : ∃ c, climb [sumB (textL leaf)] (lsides i' n') q = [c] := by
                  match climb [sumB (textL leaf)] (lsides i' n') q, hcl with
                  | [c], _ => exact ⟨c, rfl⟩
                rw [hcc] at hr ⊢
                have hr2 : r = c := hr
                subst hr2
                rw [stand_one]
                cases s <;> rfl
        by_cases hh : i < half n
        · have := key i (half n) false hl hp hh
          simp only [Bool.false_eq_true, if_false] at this
          simp only [if_pos hh]
          exact this
        · have := key (i - half n) (n - half n) true (by omega) (by omega) (by omega)
          simp only [if_true] at this
          simp only [if_neg hh]
          exact this

/-- What the old root folds to, from below: with a start, and the path behind it. -/
def growth (old : ByteArray) (S : List Bool) (whole : Bool) (p : List ByteArray) : Option (ByteArray × ByteArray) :=
  if (whole && !(S.contains true)) = true then
    (if climbB S p = true then some ((climb [old, old] S p).getD 0 ByteArray.empty, (climb [old, old] S p).getD 1 ByteArray.empty) else none)
  else match p with
    | [] => none
    | s :: r => if isSumB s = true then (if climbB S r = true then some ((climb [s, s] S r).getD 0 ByteArray.empty, (climb [s, s] S r).getD 1 ByteArray.empty) else none) else none

theorem growth_snoc (old : ByteArray) (S : List Bool) (whole s : Bool) (q : List ByteArray) (l : ByteArray) (hw : s = true → whole = true → False) (hl : isSumB l = true) :
    growth old (S ++ [s]) whole (q ++ [l]) = match growth old S whole q with
      | none => none
      | some (a, b) => if s = true then some (sumB (textN l a), sumB (textN l b)) else some (a, sumB (textN b l)) := by
  have two : ∀ (start : ByteArray) (r : List ByteArray), r.length = S.length → ∃ a b, climb [start, start] S r = [a, b] := by
    intro start r _
    have hcl : (climb [start, start] S r).length = 2 := climb_length _ _ _ (by simp)
    match climb [start, start] S r, hcl with
    | [a, b], _ => exact ⟨a, b, rfl⟩
  have len : ∀ r, climbB S r = true → r.length = S.length := by
    intro r hc
    unfold climbB at hc
    rw [Bool.and_eq_true, decide_eq_true_iff] at hc
    exact hc.1
  have hcont : (whole && !((S ++ [s]).contains true)) = (whole && !(S.contains true)) := by
    cases s with
    | false => simp
    | true =>
      cases whole with
      | false => rfl
      | true => exact (hw rfl rfl).elim
  unfold growth
  rw [hcont]
  by_cases hc : (whole && !(S.contains true)) = true
  · rw [if_pos hc, if_pos hc, climbB_snoc, hl, Bool.true_and]
    by_cases hb : climbB S q = true
    · rw [if_pos hb, if_pos hb, climb_snoc _ _ _ _ _ (len q hb)]
      obtain ⟨a, b, hab⟩ := two old q (len q hb)
      rw [hab, stand_two]
      cases s <;> rfl
    · rw [if_neg hb, if_neg hb]
  · rw [if_neg hc, if_neg hc]
    match q with
    | [] =>
      show (if isSumB l = true then (if climbB (S ++ [s]) [] = true then _ else none) else none) = none
      rw [if_pos hl, climbB_nil]
      rfl
    | t :: r =>
      show (if isSumB t = true then (if climbB (S ++ [s]) (r ++ [l]) = true then some ((climb [t, t] (S ++ [s]) (r ++ [l])).getD 0 ByteArray.empty, (climb [t, t] (S ++ [s]) (r ++ [l])).getD 1 ByteArray.empty) else none) else none) =
        match (if isSumB t = true then (if climbB S r = true then some ((climb [t, t] S r).getD 0 ByteArray.empty, (climb [t, t] S r).getD 1 ByteArray.empty) else none) else none) with
        | none => none
        | some (a, b) => if s = true then some (sumB (textN l a), sumB (textN l b)) else some (a, sumB (textN b l))
      by_cases ht : isSumB t = true
      · rw [if_pos ht, if_pos ht, climbB_snoc, hl, Bool.true_and]
        by_cases hb : climbB S r = true
        · rw [if_pos hb, if_pos hb, climb_snoc _ _ _ _ _ (len r hb)]
          obtain ⟨a, b, hab⟩ := two t r (len r hb)
          rw [hab, stand_two]
          cases s <;> rfl
        · rw [if_neg hb, if_neg hb]
      · rw [if_neg ht, if_neg ht]
theorem growth_empty (old : ByteArray) (S : List Bool) (s whole : Bool) : growth old (S ++ [s]) whole [] = none := by
  unfold growth
  rw [climbB_nil]
  split <;> rfl
theorem growth_none (old : ByteArray) (S : List Bool) (s whole : Bool) (q : List ByteArray) (l : ByteArray) (hl : isSumB l = false) : growth old (S ++ [s]) whole (q ++ [l]) = none := by
  unfold growth
  rw [climbB_snoc, hl, Bool.false_and]
  split
  · rfl
  · match q with
    | [] =>
      show (if isSumB l = true then _ else none) = none
      rw [hl]
      rfl
    | t :: r =>
      show (if isSumB t = true then (if climbB (S ++ [s]) (r ++ [l]) = true then _ else none) else none) = none
      rw [climbB_snoc, hl, Bool.false_and]
      split <;> rfl
theorem growth_right (old : ByteArray) (S : List Bool) (whole : Bool) (p : List ByteArray) : growth old (S ++ [true]) whole p = growth old (S ++ [true]) false p := by
  unfold growth
  have : (S ++ [true]).contains true = true := by simp
  rw [this]
  simp

theorem bothT_growth (old : ByteArray) : ∀ (n m : Nat) (whole : Bool) (p : List ByteArray), 1 ≤ m → m ≤ n →
    (bothT old m n whole p).map (·.2) = growth old (gsides m n) whole p := by
  intro n
  induction n using Nat.strongRecOn with
  | ind n ih =>
    intro m whole p h1 h2
    by_cases hmn : m = n
    · subst hmn
      rw [gsides_all]
      cases whole with
      | true =>
        rw [bothT_whole _ _ _ h1]
        by_cases hp : p = []
        · subst hp; rfl
        · rw [if_neg hp]
          have : climbB [] p = false := by
            unfold climbB
            have : ¬ p.length = 0 := fun h => hp (List.length_eq_zero_iff.1 h)
            simp [this]
          unfold growth
          rw [this]
          rfl
      | false =>
        rw [bothT_part _ _ _ h1]
        match p with
        | [] => rfl
        | [l] =>
          show Option.map (·.2) (if isSumB l = false then none else if [l].length = 1 then some ([], l, l) else none) = (if isSumB l = true then (if climbB [] [] = true then some (l, l) else none) else none)
          cases isSumB l <;> rfl
        | a :: b :: r =>
          have hg : growth old [] false (a :: b :: r) = none := by
            show (if isSumB a = true then (if climbB [] (b :: r) = true then _ else none) else none) = none
            have : climbB [] (b :: r) = false := by unfold climbB; simp
            rw [this]
            split <;> rfl
          rw [hg]
          obtain ⟨q, l, hq⟩ := snoc_of (a :: b :: r) (by simp)
          have hlen : ¬ (a :: b :: r).length = 1 := by simp
          simp only [if_neg hlen]
          rw [hq]
          simp only [List.getLast?_concat]
          split <;> rfl
    · have hp := half_pos n
      have hl := half_lt n (by omega)
      rw [gsides_more m n h1 (by omega)]
      by_cases hq : p = []
      · subst hq
        rw [bothT_more old m n whole [] h1 (by omega)]
        simp only [List.getLast?_nil]
        by_cases hh : m ≤ half n
        · rw [if_pos hh, growth_empty]; rfl
        · rw [if_neg hh, growth_empty]; rfl
      · obtain ⟨q, l, rfl⟩ := snoc_of p hq
        rw [bothT_more old m n whole _ h1 (by omega)]
        simp only [List.getLast?_concat, List.dropLast_concat]
        cases hs : isSumB l with
        | false =>
          by_cases hm : m ≤ half n
          · simp only [if_pos hm]
            rw [growth_none _ _ _ _ _ _ hs]
            rfl
          · simp only [if_neg hm]
            rw [growth_none _ _ _ _ _ _ hs]
            rfl
        | true =>
          by_cases hm : m ≤ half n
          · have IH := ih (half n) hl m whole q h1 hm
            simp only [if_pos hm]
            rw [growth_snoc _ _ _ _ _ _ (fun h _ => by cases h) hs, ← IH]
            cases bothT old m (half n) whole q with
            | none => rfl
            | some x => rfl
          · have IH := ih (n - half n) (by omega) (m - half n) false q (by omega) (by omega)
            simp only [if_neg hm]
            rw [growth_right, growth_snoc _ _ _ _ _ _ (fun _ h => by cases h) hs, ← IH]
            cases bothT old (m - half n) (n - half n) false q with
            | none => rfl
            | some x => rfl
end Go.Proofs.YtkhnjipjbhcgdaaGreat.Pl
