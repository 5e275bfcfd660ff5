import Derived.Test.YtkhnjipjbhcgdaaGreatPlainX
/-
  THE PLAIN MATHEMATICS: two texts of one sum: where there are none, two answers of one index, under roots that extend one another, have one leaf; the first two, as they are looked for; roots hang on the sums of the leaves alone.
-/
namespace Go.Proofs.YtkhnjipjbhcgdaaGreat.Pl

theorem isSum_size {s : ByteArray} (h : isSumB s = true) : s.size = 4 := by
  unfold isSumB at h
  rw [Bool.and_eq_true, decide_eq_true_iff] at h
  exact h.1
theorem leafT_size (leaf : ByteArray) : ∀ (n i : Nat) (p t : List ByteArray) (r : ByteArray), 1 ≤ n → i < n → leafT leaf i n p = some (t, r) → isSumB r = true := by
  intro n i p t r h1 hi h
  by_cases hn : n = 1
  · subst hn
    rw [leafT_one] at h
    split at h
    · simp only [Option.some.injEq, Prod.mk.injEq] at h
      rw [← h.2]; exact sumB_isSum _
    · cases h
  · rw [leafT_more _ _ _ _ (by omega)] at h
    split at h
    · cases h
    · split at h
      · cases h
      · split at h
        · split at h
          · cases h
          · simp only [Option.some.injEq, Prod.mk.injEq] at h
            rw [← h.2]; exact sumB_isSum _
        · split at h
          · cases h
          · simp only [Option.some.injEq, Prod.mk.injEq] at h
            rw [← h.2]; exact sumB_isSum _

theorem app_inj {a b c d : List UInt8} (h : a ++ b = c ++ d) (hl : a.length = c.length) : a = c ∧ b = d := List.append_inj h hl
theorem bytes_inj {a b : ByteArray} (h : a.data.toList = b.data.toList) : a = b := ByteArray.ext (Array.ext' h)
theorem textL_inj {a b : ByteArray} (h : textL a = textL b) : a = b := by
  apply bytes_inj
  have := congrArg (fun x : ByteArray => x.data.toList) h
  unfold textL at this
  simpa [ByteArray.data_append] using this
theorem textN_inj {a b c d : ByteArray} (h : textN a b = textN c d) (ha : a.size = 4) (hc : c.size = 4) : a = c ∧ b = d := by
  have := congrArg (fun x : ByteArray => x.data.toList) h
  unfold textN at this
  simp only [ByteArray.data_append, Array.toList_append, List.append_assoc] at this
  have h2 := List.append_cancel_left this
  have hl : a.data.toList.length = c.data.toList.length := by
    have e1 : a.data.toList.length = 4 := by simpa using ha
    have e2 : c.data.toList.length = 4 := by simpa using hc
    omega
  obtain ⟨e1, e2⟩ := List.append_inj h2 hl
  exact ⟨bytes_inj e1, bytes_inj e2⟩

/-- One step down: of more than one leaf. -/
theorem leafT_down {leaf : ByteArray} {n i : Nat} {p t : List ByteArray} {r : ByteArray} (h2 : 2 ≤ n) (hi : i < n) (h : leafT leaf i n p = some (t, r)) :
    ∃ l t' r', isSumB l = true ∧ isSumB r' = true ∧ (∀ x ∈ t', x ∈ t) ∧
      ((i < half n ∧ leafT leaf i (half n) p.dropLast = some (t', r') ∧ textN r' l ∈ t ∧ r = sumB (textN r' l)) ∨
       (¬ i < half n ∧ leafT leaf (i - half n) (n - half n) p.dropLast = some (t', r') ∧ textN l r' ∈ t ∧ r = sumB (textN l r'))) := by
  have hp := half_pos n
  have hl := half_lt n h2
  rw [leafT_more _ _ _ _ h2] at h
  split at h
  · cases h
  · rename_i l _
    split at h
    · cases h
    · rename_i hs
      have hs' : isSumB l = true := by cases hb : isSumB l with | true => rfl | false => exact absurd hb hs
      by_cases hh : i < half n
      · rw [if_pos hh] at h
        cases hx : leafT leaf i (half n) p.dropLast with
        | none => rw [hx] at h; cases h
        | some y =>
          obtain ⟨t', r'⟩ := y
          rw [hx] at h
          simp only [Option.some.injEq, Prod.mk.injEq] at h
          obtain ⟨rfl, rfl⟩ := h
          exact ⟨l, t', r', hs', leafT_size leaf _ _ _ _ _ hp hh hx, fun x hx => by simp [hx], Or.inl ⟨hh, rfl, by simp, rfl⟩⟩
      · rw [if_neg hh] at h
        cases hx : leafT leaf (i - half n) (n - half n) p.dropLast with
        | none => rw [hx] at h; cases h
        | some y =>
          obtain ⟨t', r'⟩ := y
          rw [hx] at h
          simp only [Option.some.injEq, Prod.mk.injEq] at h
          obtain ⟨rfl, rfl⟩ := h
          exact ⟨l, t', r', hs', leafT_size leaf _ _ _ _ _ (by omega) (by omega) hx, fun x hx => by simp [hx], Or.inr ⟨hh, rfl, by simp, rfl⟩⟩

/-- Of one size and one root. -/
theorem sound_one (T : List ByteArray) (hT : ∀ x ∈ T, ∀ y ∈ T, sumB x = sumB y → x = y) (a b : ByteArray) : ∀ (n i : Nat) (p q t1 t2 : List ByteArray) (r : ByteArray), 1 ≤ n → i < n →
    leafT a i n p = some (t1, r) → leafT b i n q = some (t2, r) → (∀ x ∈ t1, x ∈ T) → (∀ x ∈ t2, x ∈ T) → a = b := by
  intro n
  induction n using Nat.strongRecOn with
  | ind n ih =>
    intro i p q t1 t2 r h1 hi ha hb hta htb
    by_cases hn : n = 1
    · subst hn
      rw [leafT_one] at ha hb
      split at ha
      · split at hb
        · simp only [Option.some.injEq, Prod.mk.injEq] at ha hb
          obtain ⟨rfl, e1⟩ := ha
          obtain ⟨rfl, e2⟩ := hb
          exact textL_inj (hT _ (hta _ (by simp)) _ (htb _ (by simp)) (by rw [e1, e2]))
        · cases hb
      · cases ha
    · have hp := half_pos n
      have hl := half_lt n (by omega)
      obtain ⟨l1, t1', r1, s1, z1, m1, d1⟩ := leafT_down (by omega) hi ha
      obtain ⟨l2, t2', r2, s2, z2, m2, d2⟩ := leafT_down (by omega) hi hb
      rcases d1 with ⟨hh, x1, i1, e1⟩ | ⟨hh, x1, i1, e1⟩
      · rcases d2 with ⟨_, x2, i2, e2⟩ | ⟨hh2, _⟩
        · have he := hT _ (hta _ i1) _ (htb _ i2) (by rw [← e1, ← e2])
          obtain ⟨rfl, rfl⟩ := textN_inj he (isSum_size z1) (isSum_size z2)
          exact ih (half n) hl i _ _ t1' t2' r1 hp hh x1 x2 (fun x hx => hta x (m1 x hx)) (fun x hx => htb x (m2 x hx))
        · exact absurd hh hh2
      · rcases d2 with ⟨hh2, _⟩ | ⟨_, x2, i2, e2⟩
        · exact absurd hh2 hh
        · have he := hT _ (hta _ i1) _ (htb _ i2) (by rw [← e1, ← e2])
          obtain ⟨rfl, rfl⟩ := textN_inj he (isSum_size s1) (isSum_size s2)
          exact ih (n - half n) (by omega) (i - half n) _ _ t1' t2' r1 (by omega) (by omega) x1 x2 (fun x hx => hta x (m1 x hx)) (fun x hx => htb x (m2 x hx))

/-- What the old root comes to are sums, if it is one. -/
theorem bothT_sums (old : ByteArray) : ∀ (n m : Nat) (whole : Bool) (p t : List ByteArray) (x y : ByteArray), 1 ≤ m → m ≤ n → isSumB old = true → bothT old m n whole p = some (t, x, y) → isSumB x = true ∧ isSumB y = true := by
  intro n
  induction n using Nat.strongRecOn with
  | ind n ih =>
    intro m whole p t x y h1 h2 ho h
    by_cases hmn : m = n
    · subst hmn
      cases whole with
      | true =>
        rw [bothT_whole _ _ _ h1] at h
        split at h
        · simp only [Option.some.injEq, Prod.mk.injEq] at h
          rw [← h.2.1, ← h.2.2]; exact ⟨ho, ho⟩
        · cases h
      | false =>
        rw [bothT_part _ _ _ h1] at h
        split at h
        · cases h
        · rename_i l _
          split at h
          · cases h
          · rename_i hs
            have hs' : isSumB l = true := by cases hb : isSumB l with | true => rfl | false => exact absurd hb hs
            split at h
            · simp only [Option.some.injEq, Prod.mk.injEq] at h
              rw [← h.2.1, ← h.2.2]; exact ⟨hs', hs'⟩
            · cases h
    · have hp := half_pos n
      have hl := half_lt n (by omega)
      rw [bothT_more _ _ _ _ _ h1 (by omega)] at h
      split at h
      · cases h
      · split at h
        · cases h
        · by_cases hm : m ≤ half n
          · rw [if_pos hm] at h
            cases hx : bothT old m (half n) whole p.dropLast with
            | none => rw [hx] at h; cases h
            | some v =>
              obtain ⟨t', a', b'⟩ := v
              rw [hx] at h
              simp only [Option.some.injEq, Prod.mk.injEq] at h
              rw [← h.2.1, ← h.2.2]
              exact ⟨(ih (half n) hl m whole _ t' a' b' h1 hm ho hx).1, sumB_isSum _⟩
          · rw [if_neg hm] at h
            cases hx : bothT old (m - half n) (n - half n) false p.dropLast with
            | none => rw [hx] at h; cases h
            | some v =>
              obtain ⟨t', a', b'⟩ := v
              rw [hx] at h
              simp only [Option.some.injEq, Prod.mk.injEq] at h
              rw [← h.2.1, ← h.2.2]
              exact ⟨sumB_isSum _, sumB_isSum _⟩

/-- SOUND: under roots that extend one another. -/
theorem sound (T : List ByteArray) (hT : ∀ x ∈ T, ∀ y ∈ T, sumB x = sumB y → x = y) (a b old : ByteArray) (ho : isSumB old = true) : ∀ (n m i : Nat) (whole : Bool) (p q c t1 t2 t3 : List ByteArray) (r s : ByteArray), 1 ≤ m → m ≤ n → n ≤ 64 → i < m →
    leafT a i m p = some (t1, r) → leafT b i n q = some (t2, s) → bothT old m n whole c = some (t3, r, s) → (∀ x ∈ t1, x ∈ T) → (∀ x ∈ t2, x ∈ T) → (∀ x ∈ t3, x ∈ T) → a = b := by
  intro n
  induction n using Nat.strongRecOn with
  | ind n ih =>
    intro m i whole p q c t1 t2 t3 r s h1 h2 h64 hi ha hb hc hta htb htc
    by_cases hmn : m = n
    · subst hmn
      have hrs : r = s := by
        cases whole with
        | true =>
          rw [bothT_whole _ _ _ h1] at hc
          split at hc
          · simp only [Option.some.injEq, Prod.mk.injEq] at hc
            rw [← hc.2.1, ← hc.2.2]
          · cases hc
        | false =>
          rw [bothT_part _ _ _ h1] at hc
          split at hc
          · cases hc
          · split at hc
            · cases hc
            · split at hc
              · simp only [Option.some.injEq, Prod.mk.injEq] at hc
                rw [← hc.2.1, ← hc.2.2]
              · cases hc
      subst hrs
      exact sound_one T hT a b m i p q t1 t2 r h1 hi ha hb hta htb
    · have hp := half_pos n
      have hl := half_lt n (by omega)
      obtain ⟨l2, t2', r2, s2, z2, m2, d2⟩ := leafT_down (by omega) (by omega) hb
      rw [bothT_more _ _ _ _ _ h1 (by omega)] at hc
      split at hc
      · cases hc
      · rename_i l _
        split at hc
        · cases hc
        · rename_i hs
          have hs' : isSumB l = true := by cases hb : isSumB l with | true => rfl | false => exact absurd hb hs
          by_cases hm : m ≤ half n
          · rw [if_pos hm] at hc
            cases hx : bothT old m (half n) whole c.dropLast with
            | none => rw [hx] at hc; cases hc
            | some v =>
              obtain ⟨t', a', b'⟩ := v
              rw [hx] at hc
              simp only [Option.some.injEq, Prod.mk.injEq] at hc
              obtain ⟨rfl, rfl, e3⟩ := hc
              have hz := (bothT_sums old (half n) m whole _ t' _ b' h1 hm ho hx).2
              rcases d2 with ⟨hh, x2, i2, e2⟩ | ⟨hh, _⟩
              · have he := hT _ (htc (textN b' l) (by simp)) _ (htb _ i2) (by rw [e3, e2])
                obtain ⟨rfl, rfl⟩ := textN_inj he (isSum_size hz) (isSum_size z2)
                exact ih (half n) hl m i whole p _ _ t1 t2' t' _ _ h1 hm (by omega) hi ha x2 hx hta (fun x hx => htb x (m2 x hx)) (fun x hx => htc x (by simp [hx]))
              · exact absurd (by omega) hh
          · rw [if_neg hm] at hc
            cases hx : bothT old (m - half n) (n - half n) false c.dropLast with
            | none => rw [hx] at hc; cases hc
            | some v =>
              obtain ⟨t', a', b'⟩ := v
              rw [hx] at hc
              simp only [Option.some.injEq, Prod.mk.injEq] at hc
              obtain ⟨rfl, e3, e4⟩ := hc
              have hk := half_same m n h64 (by omega) h2
              obtain ⟨l1, t1', r1, s1, z1, m1, d1⟩ := leafT_down (by omega) hi ha
              rw [hk] at d1
              rcases d1 with ⟨hh, x1, i1, e1⟩ | ⟨hh, x1, i1, e1⟩
              · rcases d2 with ⟨_, x2, i2, e2⟩ | ⟨hh2, _⟩
                · have he1 := hT _ (htc (textN l a') (by simp)) _ (hta _ i1) (by rw [e3, e1])
                  have he2 := hT _ (htc (textN l b') (by simp)) _ (htb _ i2) (by rw [e4, e2])
                  obtain ⟨rfl, _⟩ := textN_inj he1 (isSum_size hs') (isSum_size z1)
                  obtain ⟨rfl, _⟩ := textN_inj he2 (isSum_size hs') (isSum_size z2)
                  exact sound_one T hT a b (half n) i _ _ t1' t2' _ hp hh x1 x2 (fun x hx => hta x (m1 x hx)) (fun x hx => htb x (m2 x hx))
                · exact absurd hh hh2
              · rcases d2 with ⟨hh2, _⟩ | ⟨_, x2, i2, e2⟩
                · exact absurd hh2 hh
                · have he1 := hT _ (htc (textN l a') (by simp)) _ (hta _ i1) (by rw [e3, e1])
                  have he2 := hT _ (htc (textN l b') (by simp)) _ (htb _ i2) (by rw [e4, e2])
                  obtain ⟨_, rfl⟩ := textN_inj he1 (isSum_size hs') (isSum_size s1)
                  obtain ⟨_, rfl⟩ := textN_inj he2 (isSum_size hs') (isSum_size s2)
                  exact ih (n - half n) (by omega) (m - half n) (i - half n) false _ _ _ t1' t2' t' _ _ (by omega) (by omega) (by omega) (by omega) x1 x2 hx (fun x hx => hta x (m1 x hx)) (fun x hx => htb x (m2 x hx)) (fun x hx => htc x (by simp [hx]))
end Go.Proofs.YtkhnjipjbhcgdaaGreat.Pl
