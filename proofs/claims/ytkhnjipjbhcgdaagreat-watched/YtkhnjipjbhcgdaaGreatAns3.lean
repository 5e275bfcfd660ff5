import Derived.Test.YtkhnjipjbhcgdaaGreatPlainC
import Derived.Test.YtkhnjipjbhcgdaaGreatAns2
/-
  WHAT Clash IS TO ANSWER, AND WHAT FOLLOWS FROM IT (no function of any translation is named): Sound and Failed, plainly.
-/
namespace Go.Proofs.YtkhnjipjbhcgdaaGreat.Pl

def numB (s : ByteArray) : Nat := num s.data.toList
theorem hex_mod (a : Nat) : hex a = hex (a % 16) := by unfold hex; rw [Nat.mod_mod]
theorem hex_low : ∀ a, a < 16 → ∀ b, b < 16 → hex a = hex b → a = b := by decide
theorem hex_inj {a b : Nat} (h : hex a = hex b) : a % 16 = b % 16 := by
  rw [hex_mod a, hex_mod b] at h
  exact hex_low _ (Nat.mod_lt _ (by omega)) _ (Nat.mod_lt _ (by omega)) h
theorem sumB_num (x y : ByteArray) : sumB x = sumB y ↔ numB x = numB y := by
  constructor
  · intro h
    unfold sumB sum at h
    have h1 := congrArg (fun z : ByteArray => z.data.toList) h
    simp only [dig4, List.cons.injEq, and_true] at h1
    obtain ⟨a, b, c, d⟩ := h1
    have a' := hex_inj a
    have b' := hex_inj b
    have c' := hex_inj c
    have d' := hex_inj d
    have hx := num_lt x.data.toList
    have hy := num_lt y.data.toList
    unfold numB
    omega
  · intro h
    unfold sumB sum
    unfold numB at h
    rw [h]

/-- Of T the first that is not s, and has its number. -/
def mate (T : List ByteArray) (s : ByteArray) : Option ByteArray := T.find? (fun t => decide (¬ s = t ∧ numB s = numB t))
/-- Of S the first that has one, and it. -/
def clashF (T S : List ByteArray) : Option (ByteArray × ByteArray) := S.findSome? (fun s => (mate T s).map (fun t => (s, t)))
theorem mate_some {T : List ByteArray} {s t : ByteArray} (h : mate T s = some t) : t ∈ T ∧ ¬ s = t ∧ numB s = numB t :=
  ⟨List.mem_of_find?_eq_some h, by have := List.find?_some h; simpa using this⟩
theorem mate_none {T : List ByteArray} {s : ByteArray} (h : mate T s = none) : ∀ t ∈ T, numB s = numB t → s = t := by
  intro t ht hn
  have := List.find?_eq_none.1 h t ht
  by_cases e : s = t
  · exact e
  · exact absurd (decide_eq_true ⟨e, hn⟩) this
theorem clashF_some {T S : List ByteArray} {s t : ByteArray} (h : clashF T S = some (s, t)) : s ∈ S ∧ t ∈ T ∧ ¬ s = t ∧ numB s = numB t := by
  obtain ⟨a, ha, hb⟩ := List.exists_of_findSome?_eq_some h
  cases hm : mate T a with
  | none => rw [hm] at hb; cases hb
  | some b =>
    rw [hm] at hb
    simp only [Option.map_some, Option.some.injEq, Prod.mk.injEq] at hb
    obtain ⟨rfl, rfl⟩ := hb
    obtain ⟨x, y, z⟩ := mate_some hm
    exact ⟨ha, x, y, z⟩
theorem clashF_none {T S : List ByteArray} (h : clashF T S = none) : ∀ s ∈ S, ∀ t ∈ T, numB s = numB t → s = t := by
  intro s hs
  have := List.findSome?_eq_none_iff.1 h s hs
  apply mate_none
  cases hm : mate T s with
  | none => rfl
  | some b => rw [hm] at this; cases this

/-- Two texts of one number that differ by two bytes. -/
theorem foldl_step_mod (r : List UInt8) (n m : Nat) (h : n = m) : r.foldl step n = r.foldl step m := by rw [h]
theorem num_two (a b : List UInt8) : num (a ++ [1, 1] ++ b) = num (a ++ [250, 35] ++ b) := by
  unfold num
  rw [List.foldl_append, List.foldl_append, List.foldl_append, List.foldl_append]
  apply foldl_step_mod
  generalize a.foldl step 1 = n
  simp only [List.foldl_cons, List.foldl_nil, step]
  have e1 : (1 : UInt8).toNat = 1 := rfl
  have e2 : (250 : UInt8).toNat = 250 := rfl
  have e3 : (35 : UInt8).toNat = 35 := rfl
  rw [e1, e2, e3]
  omega

/-- Roots hang on the sums of the leaves alone. -/
theorem root_congr : ∀ (n : Nat) (a b : List ByteArray), a.length = n → b.length = n → (∀ (i : Nat) (h1 : i < a.length) (h2 : i < b.length), sumB (textL a[i]) = sumB (textL b[i])) → root a = root b := by
  intro n
  induction n using Nat.strongRecOn with
  | ind n ih =>
    intro a b ha hb h
    by_cases h0 : n = 0
    · subst h0
      obtain rfl := List.length_eq_zero_iff.1 ha
      obtain rfl := List.length_eq_zero_iff.1 hb
      rfl
    · by_cases h1 : n = 1
      · subst h1
        obtain ⟨s, rfl⟩ := List.length_eq_one_iff.1 ha
        obtain ⟨t, rfl⟩ := List.length_eq_one_iff.1 hb
        rw [root_leaf, root_leaf]
        exact h 0 (by simp) (by simp)
      · have hp := half_pos n
        have hl := half_lt n (by omega)
        rw [root_node a (by omega), root_node b (by omega), ha, hb]
        have e1 : root (a.take (half n)) = root (b.take (half n)) := by
          apply ih (half n) hl _ _ (by rw [List.length_take]; omega) (by rw [List.length_take]; omega)
          intro i x y
          rw [List.getElem_take, List.getElem_take]
          exact h i _ _
        have e2 : root (a.drop (half n)) = root (b.drop (half n)) := by
          apply ih (n - half n) (by omega) _ _ (by rw [List.length_drop]; omega) (by rw [List.length_drop]; omega)
          intro i x y
          rw [List.getElem_drop, List.getElem_drop]
          exact h _ _ _
        rw [e1, e2]

/-- The leaf's text is among those of which sums were taken. -/
theorem leafT_mem (leaf : ByteArray) : ∀ (n i : Nat) (p t : List ByteArray) (r : ByteArray), 1 ≤ n → i < n → leafT leaf i n p = some (t, r) → textL leaf ∈ t := by
  intro n
  induction n using Nat.strongRecOn with
  | ind n ih =>
    intro i p t r h1 hi h
    by_cases hn : n = 1
    · subst hn
      rw [leafT_one] at h
      split at h
      · simp only [Option.some.injEq, Prod.mk.injEq] at h
        rw [← h.1]; simp
      · cases h
    · have hp := half_pos n
      have hl := half_lt n (by omega)
      obtain ⟨l, t', r', _, _, m, d⟩ := leafT_down (by omega) hi h
      rcases d with ⟨hh, x, _, _⟩ | ⟨hh, x, _, _⟩
      · exact m _ (ih (half n) hl i _ t' r' hp hh x)
      · exact m _ (ih (n - half n) (by omega) (i - half n) _ t' r' (by omega) (by omega) x)
end Go.Proofs.YtkhnjipjbhcgdaaGreat.Pl

namespace Go.Proofs.YtkhnjipjbhcgdaaGreat

/-- What was looked at, once all folds. -/
def clashV (l1 l2 : ByteArray) (T : List ByteArray) : ByteArray × ByteArray × Int :=
  if l1 = l2 then (⟨#[]⟩, ⟨#[]⟩, 8)
  else match Pl.clashF T T with
    | none => (⟨#[]⟩, ⟨#[]⟩, 8)
    | some (s, t) => (s, t, 0)
/-- What Clash is to answer. -/
def clashA (n1 i1 : Int) (l1 : ByteArray) (p1 : List ByteArray) (n2 i2 : Int) (l2 : ByteArray) (p2 : List ByteArray) (c : List ByteArray) : ByteArray × ByteArray × Int :=
  if Pl.ansB n1 i1 l1 = true ∧ Pl.ansB n2 i2 l2 = true ∧ i1 = i2 ∧ n1 ≤ n2 then
    (match Pl.leafT l1 i1.toNat n1.toNat p1, Pl.leafT l2 i2.toNat n2.toNat p2 with
    | some (t1, x), some (t2, y) =>
      (match Pl.bothT x n1.toNat n2.toNat true c with
      | some (t3, u, v) => if u = x ∧ v = y then clashV l1 l2 (t1 ++ t2 ++ t3) else (⟨#[]⟩, ⟨#[]⟩, 6)
      | none => (⟨#[]⟩, ⟨#[]⟩, 6))
    | _, _ => (⟨#[]⟩, ⟨#[]⟩, 6))
  else (⟨#[]⟩, ⟨#[]⟩, 1)

/-- Two texts, or none. -/
theorem clashV_or (l1 l2 : ByteArray) (T : List ByteArray) :
    (∃ s t, clashV l1 l2 T = (s, t, 0) ∧ ¬ s = t ∧ Pl.sumB s = Pl.sumB t ∧ ¬ l1 = l2) ∨ (clashV l1 l2 T = (⟨#[]⟩, ⟨#[]⟩, 8) ∧ (l1 = l2 ∨ ∀ s ∈ T, ∀ t ∈ T, Pl.sumB s = Pl.sumB t → s = t)) := by
  unfold clashV
  by_cases h : l1 = l2
  · rw [if_pos h]; exact Or.inr ⟨rfl, Or.inl h⟩
  · rw [if_neg h]
    cases hc : Pl.clashF T T with
    | none => exact Or.inr ⟨rfl, Or.inr fun s hs t ht e => Pl.clashF_none hc s hs t ht ((Pl.sumB_num s t).1 e)⟩
    | some v =>
      obtain ⟨s, t⟩ := v
      obtain ⟨_, _, hne, hn⟩ := Pl.clashF_some hc
      exact Or.inl ⟨s, t, rfl, hne, (Pl.sumB_num s t).2 hn, h⟩
theorem clashA_or (n1 i1 : Int) (l1 : ByteArray) (p1 : List ByteArray) (n2 i2 : Int) (l2 : ByteArray) (p2 c : List ByteArray) :
    (∃ s t, clashA n1 i1 l1 p1 n2 i2 l2 p2 c = (s, t, 0) ∧ ¬ s = t ∧ Pl.sumB s = Pl.sumB t ∧ ¬ l1 = l2) ∨ (∃ e, clashA n1 i1 l1 p1 n2 i2 l2 p2 c = (⟨#[]⟩, ⟨#[]⟩, e) ∧ ¬ e = 0) := by
  unfold clashA
  split
  · split
    · split
      · split
        · rcases clashV_or l1 l2 (_ ++ _ ++ _) with h | ⟨h, _⟩
          · exact Or.inl h
          · exact Or.inr ⟨8, h, by omega⟩
        · exact Or.inr ⟨6, rfl, by omega⟩
      · exact Or.inr ⟨6, rfl, by omega⟩
    · exact Or.inr ⟨6, rfl, by omega⟩
  · exact Or.inr ⟨1, rfl, by omega⟩

theorem inclA_zero {r : ByteArray} {n i : Int} {l : ByteArray} {p : List ByteArray} (h : inclA r n i l p = 0) : Pl.isSumB r = true ∧ Pl.ansB n i l = true ∧ ∃ t, Pl.leafT l i.toNat n.toNat p = some (t, r) := by
  unfold inclA at h
  split at h
  · rename_i hc
    split at h
    · cases h
    · rename_i t x hx
      split at h
      · rename_i e; subst e; exact ⟨hc.1, hc.2, t, hx⟩
      · cases h
  · cases h
theorem extA_zero {m n : Int} {a b : ByteArray} {p : List ByteArray} (h : extA m a n b p = 0) : Pl.isSumB a = true ∧ 1 ≤ m ∧ m ≤ n ∧ n ≤ 40 ∧ ∃ t, Pl.bothT a m.toNat n.toNat true p = some (t, a, b) := by
  unfold extA at h
  split at h
  · rename_i hc
    split at h
    · cases h
    · rename_i t x y hx
      split at h
      · rename_i e; obtain ⟨rfl, rfl⟩ := e; exact ⟨hc.1, hc.2.2.1, hc.2.2.2.1, hc.2.2.2.2, t, hx⟩
      · cases h
  · cases h

/-- SOUND, plainly: what is left once Clash shows nothing, and all three pass. -/
theorem sound_plain (n1 i : Int) (l1 : ByteArray) (p1 : List ByteArray) (n2 : Int) (l2 : ByteArray) (p2 c : List ByteArray) (r s : ByteArray)
    (h1 : inclA r n1 i l1 p1 = 0) (h2 : inclA s n2 i l2 p2 = 0) (h3 : extA n1 r n2 s c = 0) :
    (∃ x y, clashA n1 i l1 p1 n2 i l2 p2 c = (x, y, 0) ∧ ¬ x = y ∧ Pl.sumB x = Pl.sumB y ∧ ¬ l1 = l2) ∨ (clashA n1 i l1 p1 n2 i l2 p2 c = (⟨#[]⟩, ⟨#[]⟩, 8) ∧ l1 = l2) := by
  obtain ⟨hr, ha1, t1, e1⟩ := inclA_zero h1
  obtain ⟨_, ha2, t2, e2⟩ := inclA_zero h2
  obtain ⟨_, hm, hmn, hn, t3, e3⟩ := extA_zero h3
  have hv : clashA n1 i l1 p1 n2 i l2 p2 c = clashV l1 l2 (t1 ++ t2 ++ t3) := by
    unfold clashA
    rw [if_pos ⟨ha1, ha2, rfl, hmn⟩, e1, e2]
    simp only
    rw [e3]
    simp only [and_self, if_true]
  rw [hv]
  rcases clashV_or l1 l2 (t1 ++ t2 ++ t3) with h | ⟨h, hs⟩
  · exact Or.inl h
  · right
    refine ⟨h, ?_⟩
    rcases hs with he | hs
    · exact he
    · have hi : 0 ≤ i ∧ i < n1 := by
        unfold Pl.ansB at ha1
        simp only [Bool.and_eq_true, decide_eq_true_eq] at ha1
        omega
      exact Pl.sound (t1 ++ t2 ++ t3) hs l1 l2 r hr n2.toNat n1.toNat i.toNat true p1 p2 c t1 t2 t3 r s (by omega) (by omega) (by omega) (by omega) e1 e2 e3
        (fun x hx => by simp [hx]) (fun x hx => by simp [hx]) (fun x hx => by simp [hx])

/-- FAILED, plainly. -/
theorem failed_plain (l : List ByteArray) (m i : Nat) (A B : ByteArray) (him : i < m) (hm : m ≤ l.length) (hl : l.length ≤ 40) (hA : A.size ≤ 30) (hB : B.size ≤ 30) (hne : ¬ A = B) (hs : Pl.sumB (Pl.textL A) = Pl.sumB (Pl.textL B)) :
    inclA (Pl.root ((l.take m).set i A)) m i A (Pl.path ((l.take m).set i A) i) = 0 ∧
    inclA (Pl.root (l.set i B)) l.length i B (Pl.path (l.set i B) i) = 0 ∧
    extA m (Pl.root ((l.take m).set i A)) l.length (Pl.root (l.set i B)) (Pl.parts (l.set i B) m true) = 0 ∧
    ∃ x y, clashA m i A (Pl.path ((l.take m).set i A) i) l.length i B (Pl.path (l.set i B) i) (Pl.parts (l.set i B) m true) = (x, y, 0) ∧ ¬ x = y ∧ Pl.sumB x = Pl.sumB y := by
  have ea : ((l.take m).set i A).length = m := by rw [List.length_set, List.length_take]; omega
  have eb : (l.set i B).length = l.length := List.length_set
  have hroot : Pl.root ((l.take m).set i A) = Pl.root ((l.set i B).take m) := by
    apply Pl.root_congr m _ _ ea (by rw [List.length_take, eb]; omega)
    intro k h1 h2
    rw [List.getElem_take, List.getElem_set, List.getElem_set]
    by_cases hk : i = k
    · rw [if_pos hk, if_pos hk]; exact hs
    · rw [if_neg hk, if_neg hk, List.getElem_take]
  obtain ⟨t1, e1⟩ := Pl.leafT_path m ((l.take m).set i A) i (by omega) ea
  obtain ⟨t2, e2⟩ := Pl.leafT_path l.length (l.set i B) i (by omega) eb
  obtain ⟨t3, e3⟩ := Pl.bothT_parts l.length (l.set i B) m true (Pl.root ((l.take m).set i A)) eb (by omega) (by omega) hm (fun _ => hroot)
  rw [List.getElem_set_self] at e1 e2
  rw [← hroot] at e3
  have ha1 : Pl.ansB (m : Int) (i : Int) A = true := by
    unfold Pl.ansB; simp only [Bool.and_eq_true, decide_eq_true_eq]; omega
  have ha2 : Pl.ansB (l.length : Int) (i : Int) B = true := by
    unfold Pl.ansB; simp only [Bool.and_eq_true, decide_eq_true_eq]; omega
  refine ⟨?_, ?_, ?_, ?_⟩
  · unfold inclA
    rw [if_pos ⟨Pl.root_isSum _, ha1⟩, Int.toNat_natCast, Int.toNat_natCast, e1]
    exact if_pos rfl
  · unfold inclA
    rw [if_pos ⟨Pl.root_isSum _, ha2⟩, Int.toNat_natCast, Int.toNat_natCast, e2]
    exact if_pos rfl
  · unfold extA
    rw [if_pos ⟨Pl.root_isSum _, Pl.root_isSum _, by omega, by omega, by omega⟩, Int.toNat_natCast, Int.toNat_natCast, e3]
    exact if_pos ⟨rfl, rfl⟩
  · have hv : clashA m i A (Pl.path ((l.take m).set i A) i) l.length i B (Pl.path (l.set i B) i) (Pl.parts (l.set i B) m true) = clashV A B (t1 ++ t2 ++ t3) := by
      unfold clashA
      rw [if_pos ⟨ha1, ha2, rfl, by omega⟩, Int.toNat_natCast, Int.toNat_natCast, Int.toNat_natCast, e1, e2]
      simp only
      rw [e3]
      simp only [and_self, if_true]
    rw [hv]
    rcases clashV_or A B (t1 ++ t2 ++ t3) with ⟨x, y, h, h2, h3, _⟩ | ⟨_, hh⟩
    · exact ⟨x, y, h, h2, h3⟩
    · exfalso
      rcases hh with hh | hh
      · exact hne hh
      · have m1 := Pl.leafT_mem A m i _ t1 _ (by omega) him e1
        have m2 := Pl.leafT_mem B l.length i _ t2 _ (by omega) (by omega) e2
        exact hne (Pl.textL_inj (hh _ (by simp [m1]) _ (by simp [m2]) hs))

/-- Failed's two leaves. -/
theorem failed_sums (a b : ByteArray) : Pl.sumB (Pl.textL (a ++ ⟨#[1, 1]⟩ ++ b)) = Pl.sumB (Pl.textL (a ++ ⟨#[250, 35]⟩ ++ b)) := by
  rw [Pl.sumB_num]
  unfold Pl.numB Pl.textL
  have := Pl.num_two (76 :: a.data.toList) b.data.toList
  simpa [ByteArray.data_append] using this
theorem failed_ne (a b : ByteArray) : ¬ a ++ ⟨#[1, 1]⟩ ++ b = a ++ ⟨#[250, 35]⟩ ++ b := by
  intro h
  have := congrArg (fun x : ByteArray => x.data.toList) h
  simp [ByteArray.data_append] at this
end Go.Proofs.YtkhnjipjbhcgdaaGreat
