import Derived.Test.YtkhnjipjbhcgdaaGreatRLeaf
/-
  THE WALK of treeheadref's (*Fold).Both.
-/
namespace Go.Proofs.YtkhnjipjbhcgdaaGreat
open Go.RowKit

/-- How a fold to two roots ends. -/
def BothEnd (B F : Nat) (ts : List ByteArray) (n : Nat) (x : Option (List ByteArray × ByteArray × ByteArray)) (e : Ending) (w w' : World) : Prop :=
  Below B w w' ∧ ((∃ t a b, x = some (t, a, b) ∧ e = .returned (.tuple #[.string a, .string b]) ∧ FoldAt w' B F (ts ++ t) true) ∨
    (x = none ∧ ∃ a b ts', e = .returned (.tuple #[.string a, .string b]) ∧ ts'.length ≤ ts.length + 2 * n ∧ FoldAt w' B F ts' false))

theorem bothF_facts : ∀ (f : Nat) (old : ByteArray) (m n : Nat) (q : Bool) (p t : List ByteArray) (a b : ByteArray), old.size = 4 → 1 ≤ m → m ≤ n → Pl.bothF f old m n q p = some (t, a, b) → a.size = 4 ∧ b.size = 4 ∧ t.length ≤ 2 * n := by
  intro f
  induction f with
  | zero => intro old m n q p t a b _ _ _ h; simp [Pl.bothF] at h
  | succ f ih =>
    intro old m n q p t a b ho h1 hmn h
    unfold Pl.bothF at h
    split at h
    · split at h
      · simp only [Option.some.injEq, Prod.mk.injEq] at h
        obtain ⟨rfl, rfl, rfl⟩ := h
        exact ⟨ho, ho, by simp⟩
      · cases h
    · split at h
      · cases h
      · rename_i l _
        split at h
        · cases h
        · rename_i hs
          have hs' : Pl.isSumB l = true := by simpa using hs
          split at h
          · split at h
            · simp only [Option.some.injEq, Prod.mk.injEq] at h
              obtain ⟨rfl, rfl, rfl⟩ := h
              exact ⟨isSumB_size hs', isSumB_size hs', by simp⟩
            · cases h
          · rename_i hne
            have hp := Pl.half_pos n
            have hl := Pl.half_lt n (by omega)
            split at h
            · rename_i hle
              split at h
              · cases h
              · rename_i t' a' b' he
                simp only [Option.some.injEq, Prod.mk.injEq] at h
                obtain ⟨rfl, rfl, rfl⟩ := h
                have := ih old m (Pl.half n) q _ t' _ b' ho h1 hle he
                exact ⟨this.1, rfl, by rw [List.length_append, List.length_singleton]; omega⟩
            · split at h
              · cases h
              · rename_i t' a' b' he
                simp only [Option.some.injEq, Prod.mk.injEq] at h
                obtain ⟨rfl, rfl, rfl⟩ := h
                have := ih old _ (n - Pl.half n) false _ t' a' b' ho (by omega) (by omega) he
                exact ⟨rfl, rfl, by rw [List.length_append]; simp; omega⟩
theorem bothT_facts {old : ByteArray} {m n : Nat} {q : Bool} {p t : List ByteArray} {a b : ByteArray} (ho : old.size = 4) (h1 : 1 ≤ m) (h2 : m ≤ n) (h : Pl.bothT old m n q p = some (t, a, b)) : a.size = 4 ∧ b.size = 4 ∧ t.length ≤ 2 * n := bothF_facts n old m n q p t a b ho h1 h2 h

theorem FoldAt.same {w : World} {B F : Nat} {ts : List ByteArray} {ok : Bool} (h : FoldAt w B F ts ok) : FoldAt w B F (ts ++ []) ok := by rw [List.append_nil]; exact h

set_option maxRecDepth 100000 in
set_option maxHeartbeats 1000000 in
theorem fboth_whole (B F : Nat) (ts : List ByteArray) (p : Option Addr) (cap : Nat) (path : List ByteArray) (old : ByteArray) (n : Nat) (w : World) (h : FoldAt w B F ts true) (h1 : 1 ≤ n) (h40 : n ≤ 40) (hlen : path.length ≤ 9223372036854775807) :
    Calls Tryz.prog 67 #[.pointer (some ⟨F, 0, none⟩), .string old, .int .i64 n, .int .i64 n, .bool true, .slice p path.length cap] w fun e w' => BothEnd B F ts n (Pl.bothT old n n true path) e w w' := by
  have hq := beq_self_int n
  obtain ⟨c1, f1⟩ := h.cells
  have HF : Hid (FoldAt w B F ts true) := h
  by_cases hp : path = []
  · subst hp
    have HX : Hid (Pl.bothT old n n true [] = some ([], old, old)) := by show _ = _; rw [Pl.bothT_whole _ _ _ h1, if_pos rfl]
    clear h
    go_enter Tryz.func67, Tryz.ntmps67
    go_wp2_with fail
    go_ret2
    exact ⟨Below.refl _ _, Or.inl ⟨_, _, _, HX.out, rfl, HF.out.same⟩⟩
  · have HX : Hid (Pl.bothT old n n true path = none) := by show _ = _; rw [Pl.bothT_whole _ _ _ h1, if_neg hp]
    have hpos : 0 < path.length := List.length_pos_iff.2 hp
    clear h hp
    go_enter Tryz.func67, Tryz.ntmps67
    go_wp2_with fail
    go_ret2
    exact ⟨(Below.refl B w).setCell HF.out.le _, Or.inr ⟨HX.out, _, _, ts, rfl, by omega, HF.out.setOK false⟩⟩

set_option maxRecDepth 100000 in
set_option maxHeartbeats 1000000 in
theorem fboth_nolast (B F : Nat) (ts : List ByteArray) (p : Option Addr) (cap : Nat) (old : ByteArray) (m n : Nat) (q : Bool) (w : World) (h : FoldAt w B F ts true) (h1 : 1 ≤ m) (h2 : m ≤ n) (h40 : n ≤ 40) (hq : m < n ∨ q = false) :
    Calls Tryz.prog 67 #[.pointer (some ⟨F, 0, none⟩), .string old, .int .i64 m, .int .i64 n, .bool q, .slice p 0 cap] w fun e w' => BothEnd B F ts n (Pl.bothT old m n q []) e w w' := by
  have hL := flast_none B F ts p cap w h
  by_cases hmn : m = n
  · subst hmn
    obtain rfl : q = false := by rcases hq with h | h <;> first | omega | exact h
    have HX : Hid (Pl.bothT old m m false [] = none) := by show _ = _; rw [Pl.bothT_part _ _ _ h1]; rfl
    have hb := beq_self_int m
    clear h hq
    go_enter Tryz.func67, Tryz.ntmps67
    go_wp2_with fail
    refine hL.mono ?_
    rintro e w1 ⟨rfl, h1, hb1⟩
    obtain ⟨c1, _⟩ := h1.cells
    have HF1 : Hid (FoldAt w1 B F ts false) := h1
    clear h1
    go_wp2_with fail
    go_ret2
    exact ⟨hb1, Or.inr ⟨HX.out, _, _, ts, rfl, by omega, HF1.out⟩⟩
  · have HX : Hid (Pl.bothT old m n q [] = none) := by show _ = _; rw [Pl.bothT_more _ _ _ _ _ h1 (by omega)]; rfl
    have hb : ((m : Int) == (n : Int)) = false := beq_eq_false_iff_ne.2 (by omega)
    clear h hq
    go_enter Tryz.func67, Tryz.ntmps67
    go_wp2_with fail
    refine hL.mono ?_
    rintro e w1 ⟨rfl, h1, hb1⟩
    obtain ⟨c1, _⟩ := h1.cells
    have HF1 : Hid (FoldAt w1 B F ts false) := h1
    clear h1
    go_wp2_with fail
    go_ret2
    exact ⟨hb1, Or.inr ⟨HX.out, _, _, ts, rfl, by omega, HF1.out⟩⟩

set_option maxRecDepth 100000 in
set_option maxHeartbeats 1000000 in
theorem fboth_badlast (B F : Nat) (ts : List ByteArray) (p : Option Addr) (cap : Nat) (path : List ByteArray) (l old : ByteArray) (m n : Nat) (q : Bool) (w : World) (h : FoldAt w B F ts true) (h1 : 1 ≤ m) (h2 : m < n) (h40 : n ≤ 40) (hr : Row w p path) (hl : path.getLast? = some l) (hs : Pl.isSumB l = false) :
    Calls Tryz.prog 67 #[.pointer (some ⟨F, 0, none⟩), .string old, .int .i64 m, .int .i64 n, .bool q, .slice p path.length cap] w fun e w' => BothEnd B F ts n (Pl.bothT old m n q path) e w w' := by
  have hL := flast_bad B F ts p cap path l w h hr hl hs
  have HX : Hid (Pl.bothT old m n q path = none) := by show _ = _; rw [Pl.bothT_more _ _ _ _ _ h1 h2, hl]; simp only [hs, if_true]
  have hb : ((m : Int) == (n : Int)) = false := beq_eq_false_iff_ne.2 (by omega)
  have hlen : path.length ≤ 9223372036854775807 := hr.len
  clear h hr hl hs
  go_enter Tryz.func67, Tryz.ntmps67
  go_wp2_with fail
  refine hL.mono ?_
  rintro e w1 ⟨rfl, h1, hb1⟩
  obtain ⟨c1, _⟩ := h1.cells
  have HF1 : Hid (FoldAt w1 B F ts false) := h1
  clear h1
  go_wp2_with fail
  go_ret2
  exact ⟨hb1, Or.inr ⟨HX.out, _, _, ts, rfl, by omega, HF1.out⟩⟩

set_option maxRecDepth 100000 in
set_option maxHeartbeats 1000000 in
theorem fboth_same (B F : Nat) (ts : List ByteArray) (p : Option Addr) (cap : Nat) (path : List ByteArray) (l old : ByteArray) (n : Nat) (w : World) (h : FoldAt w B F ts true) (h1 : 1 ≤ n) (h40 : n ≤ 40) (hr : Row w p path) (hl : path.getLast? = some l) :
    Calls Tryz.prog 67 #[.pointer (some ⟨F, 0, none⟩), .string old, .int .i64 n, .int .i64 n, .bool false, .slice p path.length cap] w fun e w' => BothEnd B F ts n (Pl.bothT old n n false path) e w w' := by
  have hq := beq_self_int n
  have hlen : path.length ≤ 9223372036854775807 := hr.len
  obtain ⟨b0, o0, rfl, _, _, hpos⟩ := last_cell hr hl
  have HX := Pl.bothT_part old n path h1
  rw [hl] at HX
  have HF : Hid (FoldAt w B F ts true) := h
  obtain ⟨d1, g1⟩ := h.cells
  cases hs : Pl.isSumB l with
  | false =>
    have hL := flast_bad B F ts _ cap path l w h hr hl hs
    have HN : Hid (Pl.bothT old n n false path = none) := by show _ = _; rw [HX]; simp only [hs, if_true]
    clear h hr hl hs HX
    by_cases hlong : 1 < path.length
    · go_enter Tryz.func67, Tryz.ntmps67
      go_wp2_with fail
      refine hL.mono ?_
      rintro e w1 ⟨rfl, h1, hb1⟩
      obtain ⟨c1, f1⟩ := h1.cells
      have HF1 : Hid (FoldAt w1 B F ts false) := h1
      clear h1
      go_wp2_with fail
      go_ret2
      exact ⟨hb1.setCell HF1.out.le _, Or.inr ⟨HN.out, _, _, ts, rfl, by omega, HF1.out.setOK false⟩⟩
    · go_enter Tryz.func67, Tryz.ntmps67
      go_wp2_with fail
      refine hL.mono ?_
      rintro e w1 ⟨rfl, h1, hb1⟩
      obtain ⟨c1, f1⟩ := h1.cells
      have HF1 : Hid (FoldAt w1 B F ts false) := h1
      clear h1
      go_wp2_with fail
      go_ret2
      exact ⟨hb1, Or.inr ⟨HN.out, _, _, ts, rfl, by omega, HF1.out⟩⟩
  | true =>
    have hL := flast_good F _ cap path l w hr hl hs
    by_cases hlong : 1 < path.length
    · have HN : Hid (Pl.bothT old n n false path = none) := by show _ = _; rw [HX]; simp only [hs, Bool.true_eq_false, if_false]; rw [if_neg (by omega)]
      clear h hr hl hs HX
      go_enter Tryz.func67, Tryz.ntmps67
      go_wp2_with fail
      refine hL.mono ?_
      rintro e w1 ⟨rfl, rfl⟩
      go_wp2_with fail
      go_ret2
      exact ⟨(Below.refl B _).setCell HF.out.le _, Or.inr ⟨HN.out, _, _, ts, rfl, by omega, HF.out.setOK false⟩⟩
    · have HN : Hid (Pl.bothT old n n false path = some ([], l, l)) := by show _ = _; rw [HX]; simp only [hs, Bool.true_eq_false, if_false]; rw [if_pos (by omega)]
      clear h hr hl hs HX
      go_enter Tryz.func67, Tryz.ntmps67
      go_wp2_with fail
      refine hL.mono ?_
      rintro e w1 ⟨rfl, rfl⟩
      go_wp2_with fail
      go_ret2
      exact ⟨Below.refl _ _, Or.inl ⟨_, _, _, HN.out, rfl, HF.out.same⟩⟩

set_option maxRecDepth 100000 in
set_option maxHeartbeats 2000000 in
theorem fboth_left (B F : Nat) (ts : List ByteArray) (p : Option Addr) (cap : Nat) (path : List ByteArray) (l old : ByteArray) (m n : Nat) (q : Bool) (w : World) (h : FoldAt w B F ts true) (hB : B ≤ w.heap.size) (ho : old.size = 4) (h1 : 1 ≤ m) (h2 : m < n) (h40 : n ≤ 40) (hi : m ≤ Pl.half n) (hpc : path.length ≤ cap) (hcm : cap ≤ 9223372036854775807) (hts : ts.length + 2 * n ≤ 3000) (hr : Row w p path) (hl : path.getLast? = some l) (hs : Pl.isSumB l = true)
    (ih : Calls Tryz.prog 67 #[.pointer (some ⟨F, 0, none⟩), .string old, .int .i64 m, .int .i64 (Pl.half n : Nat), .bool q, .slice p (path.length - 1) cap] w fun e w' => BothEnd B F ts (Pl.half n) (Pl.bothT old m (Pl.half n) q path.dropLast) e w w') :
    Calls Tryz.prog 67 #[.pointer (some ⟨F, 0, none⟩), .string old, .int .i64 m, .int .i64 n, .bool q, .slice p path.length cap] w fun e w' => BothEnd B F ts n (Pl.bothT old m n q path) e w w' := by
  have hp := Pl.half_pos n
  have hlt := Pl.half_lt n (by omega)
  have HX : Hid (Pl.bothT old m n q path = match (Pl.bothT old m (Pl.half n) q path.dropLast) with
          | none => none
          | some (t, a, b) => some (t ++ [Pl.textN b l], a, Pl.sumB (Pl.textN b l))) := by
    show _ = _
    rw [Pl.bothT_more _ _ _ _ _ h1 h2, hl]
    simp only [hs, Bool.true_eq_false, if_false, if_pos hi]
    cases (Pl.bothT old m (Pl.half n) q path.dropLast) <;> rfl
  have hne : ((m : Int) == (n : Int)) = false := beq_eq_false_iff_ne.2 (by omega)
  have hL := flast_good F p cap path l w hr hl hs
  obtain ⟨b0, o0, rfl, _, _, hpos⟩ := last_cell hr hl
  obtain ⟨c1, _⟩ := h.cells
  have HBL : Hid _ := fun w => below_any n w (by omega) (by omega)
  have hl4 := isSumB_size hs
  have hl4' : l.size ≤ 4 := by omega
  have e1 : ((path.length : Int) - 1).toNat = path.length - 1 := by omega
  have HI : Hid _ := fun (_ : True) => ih
  have HF : Hid (FoldAt w B F ts true) := h
  have HT : Hid (∀ a, Pl.textN a l = ⟨#[78]⟩ ++ a ++ l) := fun _ => rfl
  cases hx : (Pl.bothT old m (Pl.half n) q path.dropLast) with
  | none =>
    rw [hx] at HX HI
    clear hx ih h hr hl hs hl4 ho
    generalize Pl.half n = k at *
    go_enter Tryz.func67, Tryz.ntmps67
    go_wp2_with fail
    refine hL.mono ?_
    rintro e w1 ⟨rfl, rfl⟩
    go_wp2_with fail
    refine (HBL.out _).mono ?_
    rintro e w1 ⟨rfl, rfl⟩
    go_wp2_with fail
    refine (HI.out trivial).mono ?_
    rintro e w2 ⟨hb2, hend⟩
    rcases hend with ⟨t, a, b, he, _⟩ | ⟨_, a, b, ts', rfl, hlen2, h3⟩
    · cases he
    obtain ⟨c3, _⟩ := h3.cells
    have HF3 : Hid (FoldAt w2 B F ts' false) := h3
    clear h3
    go_wp2_with fail
    go_ret2
    exact ⟨hb2, Or.inr ⟨HX.out, _, _, _, rfl, by omega, HF3.out⟩⟩
  | some x =>
    obtain ⟨t, a, b⟩ := x
    have hfacts := bothT_facts ho h1 hi hx
    rw [hx] at HX HI
    have ha4 : a.size ≤ 4 := by omega
    have hb4 : b.size ≤ 4 := by omega
    have ht := hfacts.2.2
    have hz : (Pl.textN b l).size ≤ 64 := by rw [textN_size]; omega
    clear hx ih h hr hl hs hl4 hfacts ho
    generalize Pl.half n = k at *
    go_enter Tryz.func67, Tryz.ntmps67
    go_wp2_with fail
    refine hL.mono ?_
    rintro e w1 ⟨rfl, rfl⟩
    go_wp2_with fail
    refine (HBL.out _).mono ?_
    rintro e w1 ⟨rfl, rfl⟩
    go_wp2_with fail
    refine (HI.out trivial).mono ?_
    rintro e w2 ⟨hb2, hend⟩
    rcases hend with ⟨t', a', b', he, rfl, h3⟩ | ⟨he, _⟩
    · simp only [Option.some.injEq, Prod.mk.injEq] at he
      obtain ⟨rfl, rfl, rfl⟩ := he
      obtain ⟨c3, _⟩ := h3.cells
      have HF3 : Hid (FoldAt w2 B F (ts ++ t) true) := h3
      have hs2 := hb2.size
      clear h3
      go_wp2_with fail
      rw [← HT.out]
      refine (fsum_any B F (ts ++ t) true _ _ HF3.out (by omega) hz (by rw [List.length_append]; omega)).mono ?_
      rintro e w4 ⟨rfl, h4, hbb4⟩
      have HF4 : Hid (FoldAt w4 B F (ts ++ t ++ [Pl.textN b l]) true) := h4
      clear h4
      go_wp2_with fail
      go_ret2
      exact ⟨hb2.trans hbb4, Or.inl ⟨_, _, _, HX.out, rfl, by rw [← List.append_assoc]; exact HF4.out⟩⟩
    · cases he

set_option maxRecDepth 100000 in
set_option maxHeartbeats 2000000 in
theorem fboth_right (B F : Nat) (ts : List ByteArray) (p : Option Addr) (cap : Nat) (path : List ByteArray) (l old : ByteArray) (m n : Nat) (q : Bool) (w : World) (h : FoldAt w B F ts true) (hB : B ≤ w.heap.size) (ho : old.size = 4) (h1 : 1 ≤ m) (h2 : m < n) (h40 : n ≤ 40) (hi : ¬ m ≤ Pl.half n) (hpc : path.length ≤ cap) (hcm : cap ≤ 9223372036854775807) (hts : ts.length + 2 * n ≤ 3000) (hr : Row w p path) (hl : path.getLast? = some l) (hs : Pl.isSumB l = true)
    (ih : Calls Tryz.prog 67 #[.pointer (some ⟨F, 0, none⟩), .string old, .int .i64 ((m : Int) - (Pl.half n : Int)), .int .i64 ((n : Int) - (Pl.half n : Int)), .bool false, .slice p (path.length - 1) cap] w fun e w' => BothEnd B F ts (n - Pl.half n) (Pl.bothT old (m - Pl.half n) (n - Pl.half n) false path.dropLast) e w w') :
    Calls Tryz.prog 67 #[.pointer (some ⟨F, 0, none⟩), .string old, .int .i64 m, .int .i64 n, .bool q, .slice p path.length cap] w fun e w' => BothEnd B F ts n (Pl.bothT old m n q path) e w w' := by
  have hp := Pl.half_pos n
  have hlt := Pl.half_lt n (by omega)
  have HX : Hid (Pl.bothT old m n q path = match (Pl.bothT old (m - Pl.half n) (n - Pl.half n) false path.dropLast) with
          | none => none
          | some (t, a, b) => some (t ++ [Pl.textN l a, Pl.textN l b], Pl.sumB (Pl.textN l a), Pl.sumB (Pl.textN l b))) := by
    show _ = _
    rw [Pl.bothT_more _ _ _ _ _ h1 h2, hl]
    simp only [hs, Bool.true_eq_false, if_false, if_neg hi]
    cases (Pl.bothT old (m - Pl.half n) (n - Pl.half n) false path.dropLast) <;> rfl
  have hne : ((m : Int) == (n : Int)) = false := beq_eq_false_iff_ne.2 (by omega)
  have hL := flast_good F p cap path l w hr hl hs
  obtain ⟨b0, o0, rfl, _, _, hpos⟩ := last_cell hr hl
  obtain ⟨c1, _⟩ := h.cells
  have HBL : Hid _ := fun w => below_any n w (by omega) (by omega)
  have hl4 := isSumB_size hs
  have hl4' : l.size ≤ 4 := by omega
  have e1 : ((path.length : Int) - 1).toNat = path.length - 1 := by omega
  have HI : Hid _ := fun (_ : True) => ih
  have HF : Hid (FoldAt w B F ts true) := h
  have HT : Hid (∀ a, Pl.textN l a = ⟨#[78]⟩ ++ l ++ a) := fun _ => rfl
  cases hx : (Pl.bothT old (m - Pl.half n) (n - Pl.half n) false path.dropLast) with
  | none =>
    rw [hx] at HX HI
    clear hx ih h hr hl hs hl4 ho
    generalize Pl.half n = k at *
    go_enter Tryz.func67, Tryz.ntmps67
    go_wp2_with fail
    refine hL.mono ?_
    rintro e w1 ⟨rfl, rfl⟩
    go_wp2_with fail
    refine (HBL.out _).mono ?_
    rintro e w1 ⟨rfl, rfl⟩
    go_wp2_with fail
    refine (HI.out trivial).mono ?_
    rintro e w2 ⟨hb2, hend⟩
    rcases hend with ⟨t, a, b, he, _⟩ | ⟨_, a, b, ts', rfl, hlen2, h3⟩
    · cases he
    obtain ⟨c3, _⟩ := h3.cells
    have HF3 : Hid (FoldAt w2 B F ts' false) := h3
    clear h3
    go_wp2_with fail
    go_ret2
    exact ⟨hb2, Or.inr ⟨HX.out, _, _, _, rfl, by omega, HF3.out⟩⟩
  | some x =>
    obtain ⟨t, a, b⟩ := x
    have hfacts := bothT_facts ho (by omega) (by omega) hx
    rw [hx] at HX HI
    have ha4 : a.size ≤ 4 := by omega
    have hb4 : b.size ≤ 4 := by omega
    have ht := hfacts.2.2
    have hz : (Pl.textN l a).size ≤ 64 := by rw [textN_size]; omega
    have hz2 : (Pl.textN l b).size ≤ 64 := by rw [textN_size]; omega
    clear hx ih h hr hl hs hl4 hfacts ho
    generalize Pl.half n = k at *
    go_enter Tryz.func67, Tryz.ntmps67
    go_wp2_with fail
    refine hL.mono ?_
    rintro e w1 ⟨rfl, rfl⟩
    go_wp2_with fail
    refine (HBL.out _).mono ?_
    rintro e w1 ⟨rfl, rfl⟩
    go_wp2_with fail
    refine (HI.out trivial).mono ?_
    rintro e w2 ⟨hb2, hend⟩
    rcases hend with ⟨t', a', b', he, rfl, h3⟩ | ⟨he, _⟩
    · simp only [Option.some.injEq, Prod.mk.injEq] at he
      obtain ⟨rfl, rfl, rfl⟩ := he
      obtain ⟨c3, _⟩ := h3.cells
      have HF3 : Hid (FoldAt w2 B F (ts ++ t) true) := h3
      have hs2 := hb2.size
      clear h3
      go_wp2_with fail
      rw [← HT.out]
      refine (fsum_any B F (ts ++ t) true _ _ HF3.out (by omega) hz (by rw [List.length_append]; omega)).mono ?_
      rintro e w4 ⟨rfl, h4, hbb4⟩
      have HF4 : Hid (FoldAt w4 B F (ts ++ t ++ [Pl.textN l a]) true) := h4
      have hs4 := hbb4.size
      clear h4
      go_wp2_with fail
      rw [← HT.out]
      refine (fsum_any B F (ts ++ t ++ [Pl.textN l a]) true _ _ HF4.out (by omega) hz2 (by rw [List.length_append, List.length_append]; simp; omega)).mono ?_
      rintro e w5 ⟨rfl, h5, hbb5⟩
      have HF5 : Hid (FoldAt w5 B F (ts ++ t ++ [Pl.textN l a] ++ [Pl.textN l b]) true) := h5
      clear h5
      go_wp2_with fail
      go_ret2
      refine ⟨(hb2.trans hbb4).trans hbb5, Or.inl ⟨_, _, _, HX.out, rfl, ?_⟩⟩
      have := HF5.out
      simpa using this
    · cases he

theorem fboth_any : ∀ (f B F : Nat) (w0 : World) (p : Option Addr) (cap : Nat) (path : List ByteArray) (old : ByteArray) (m n : Nat) (q : Bool) (ts : List ByteArray) (w : World),
    n ≤ f → 1 ≤ m → m ≤ n → n ≤ 40 → old.size = 4 → ts.length + 2 * n ≤ 3000 → path.length ≤ cap → cap ≤ 9223372036854775807 → w0.heap.size ≤ B → Row w0 p path → Below B w0 w → B ≤ w.heap.size → FoldAt w B F ts true →
    Calls Tryz.prog 67 #[.pointer (some ⟨F, 0, none⟩), .string old, .int .i64 m, .int .i64 n, .bool q, .slice p path.length cap] w fun e w' => BothEnd B F ts n (Pl.bothT old m n q path) e w w' := by
  intro f
  induction f with
  | zero => intro B F w0 p cap path old m n q ts w h h1 h2; omega
  | succ f ih =>
    intro B F w0 p cap path old m n q ts w h h1 h2 h40 hs hts hpc hcm h0 hr0 hb hB hF
    have hr := hr0.grow hb h0
    by_cases hmn : m = n
    · subst hmn
      cases q with
      | true => exact fboth_whole B F ts p cap path old m w hF h1 h40 hr0.len
      | false =>
        cases hl : path.getLast? with
        | none =>
          obtain rfl : path = [] := List.getLast?_eq_none_iff.1 hl
          exact fboth_nolast B F ts p cap old m m false w hF h1 (Nat.le_refl _) h40 (Or.inr rfl)
        | some l => exact fboth_same B F ts p cap path l old m w hF h1 h40 hr hl
    · have hp := Pl.half_pos n
      have hlt := Pl.half_lt n (by omega)
      cases hl : path.getLast? with
      | none =>
        obtain rfl : path = [] := List.getLast?_eq_none_iff.1 hl
        exact fboth_nolast B F ts p cap old m n q w hF h1 h2 h40 (Or.inl (by omega))
      | some l =>
        have e1 : path.dropLast.length = path.length - 1 := List.length_dropLast
        have hrd : Row w0 p path.dropLast := by rw [List.dropLast_eq_take]; exact hr0.take _
        cases hsl : Pl.isSumB l with
        | false => exact fboth_badlast B F ts p cap path l old m n q w hF h1 (by omega) h40 hr hl hsl
        | true =>
          by_cases hlf : m ≤ Pl.half n
          · refine fboth_left B F ts p cap path l old m n q w hF hB hs h1 (by omega) h40 hlf hpc hcm hts hr hl hsl ?_
            have := ih B F w0 p cap path.dropLast old m (Pl.half n) q ts w (by omega) h1 hlf (by omega) hs (by omega) (by omega) hcm h0 hrd hb hB hF
            rwa [e1] at this
          · refine fboth_right B F ts p cap path l old m n q w hF hB hs h1 (by omega) h40 hlf hpc hcm hts hr hl hsl ?_
            have := ih B F w0 p cap path.dropLast old (m - Pl.half n) (n - Pl.half n) false ts w (by omega) (by omega) (by omega) (by omega) hs (by omega) (by omega) hcm h0 hrd hb hB hF
            rwa [e1, show ((m - Pl.half n : Nat) : Int) = (m : Int) - (Pl.half n : Int) by omega, show ((n - Pl.half n : Nat) : Int) = (n : Int) - (Pl.half n : Int) by omega] at this

end Go.Proofs.YtkhnjipjbhcgdaaGreat

namespace Go.Proofs.YtkhnjipjbhcgdaaGreat
open Go.RowKit

theorem ansB_iff (size index : Int) (leaf : ByteArray) : Pl.ansB size index leaf = true ↔ (1 ≤ size ∧ size ≤ 40 ∧ 0 ≤ index ∧ index < size ∧ leaf.size ≤ 30) := by
  simp only [Pl.ansB, Bool.and_eq_true, decide_eq_true_eq, and_assoc]
theorem ansB_no {size index : Int} {leaf : ByteArray} (h : ¬ (1 ≤ size ∧ size ≤ 40 ∧ 0 ≤ index ∧ index < size ∧ leaf.size ≤ 30)) : false = Pl.ansB size index leaf := by
  cases hb : Pl.ansB size index leaf with
  | false => rfl
  | true => exact absurd ((ansB_iff _ _ _).1 hb) h
theorem ansB_last {size index : Int} {leaf : ByteArray} (h : 1 ≤ size ∧ size ≤ 40 ∧ 0 ≤ index ∧ index < size) : decide ((leaf.size : Int) ≤ 30) = Pl.ansB size index leaf := by
  rw [Bool.eq_iff_iff, ansB_iff, decide_eq_true_eq]
  omega

set_option maxRecDepth 100000 in
set_option maxHeartbeats 1000000 in
theorem ranswers_any (size index : Int) (leaf : ByteArray) (pv : Value) (w : World) :
    Calls Tryz.prog 71 #[.agg #[.int .i64 size, .int .i64 index, .string leaf, pv]] w fun e w' => e = .returned (.bool (Pl.ansB size index leaf)) ∧ Below w.heap.size w w' := by
  go_enter Tryz.func71, Tryz.ntmps71
  go_wp2
  all_goals go_ret
  all_goals refine ⟨ret_bool ?_, (Below.refl _ _).alloc (Nat.le_refl _) _⟩
  all_goals first | exact ansB_last (by omega) | exact ansB_no (by omega)

/-- What Included is to answer. -/
def inclE (r : ByteArray) (size index : Int) (leaf : ByteArray) (path : List ByteArray) : Int :=
  if Pl.isSumB r = true ∧ Pl.ansB size index leaf = true then
    (match Pl.leafT leaf index.toNat size.toNat path with
    | none => 6
    | some (_, x) => if x = r then 0 else 6)
  else 1
theorem inclE_arg {r : ByteArray} {size index : Int} {leaf : ByteArray} {path : List ByteArray} (h : ¬ (Pl.isSumB r = true ∧ Pl.ansB size index leaf = true)) : inclE r size index leaf path = 1 := if_neg h

theorem str_ne {a b : ByteArray} (h : ¬ a = b) : (a.toList == b.toList) = false := by
  rw [beq_eq_false_iff_ne]
  intro he
  apply h
  have h1 : a.data.toList = b.data.toList := by rwa [Go.ByteArray.toList_eq, Go.ByteArray.toList_eq] at he
  exact ByteArray.ext (Array.ext' h1)

theorem fold_new (w : World) : FoldAt (w.alloc (.cells #[.slice none 0 0, .bool true] 99)) w.heap.size w.heap.size [] true :=
  ⟨Nat.le_refl _, by simp, by simp, .slice none 0 0, heap_alloc_new w _, own_nil _ _⟩

/-- A struct of four cells in a box of the call's own, behind a callee that leaves what was there. -/
theorem box4 {w w2 : World} {a b c d : Value} {t : TypeId} (hb : Below (w.alloc (.cells #[a, b, c, d] t)).heap.size (w.alloc (.cells #[a, b, c, d] t)) w2) :
    w2.cell? ⟨w.heap.size, 0, none⟩ = some a ∧ w2.cell? ⟨w.heap.size, 1, none⟩ = some b ∧ w2.cell? ⟨w.heap.size, 2, none⟩ = some c ∧ w2.cell? ⟨w.heap.size, 3, none⟩ = some d ∧ w.heap.size < w2.heap.size := by
  have h : ∀ o, w2.cell? ⟨w.heap.size, o, none⟩ = #[a, b, c, d][o]? := fun o => by
    rw [hb.cell (p := ⟨w.heap.size, o, none⟩) (by simp), World.cell?_alloc_mark]
  have hs := hb.size
  simp at hs
  exact ⟨h 0, h 1, h 2, h 3, by omega⟩
theorem box2 {w w2 : World} {a b : Value} {t : TypeId} (hb : Below (w.alloc (.cells #[a, b] t)).heap.size (w.alloc (.cells #[a, b] t)) w2) :
    w2.cell? ⟨w.heap.size, 0, none⟩ = some a ∧ w2.cell? ⟨w.heap.size, 1, none⟩ = some b ∧ w.heap.size < w2.heap.size := by
  have h : ∀ o, w2.cell? ⟨w.heap.size, o, none⟩ = #[a, b][o]? := fun o => by
    rw [hb.cell (p := ⟨w.heap.size, o, none⟩) (by simp), World.cell?_alloc_mark]
  have hs := hb.size
  simp at hs
  exact ⟨h 0, h 1, by omega⟩

set_option maxRecDepth 100000 in
set_option maxHeartbeats 1000000 in
theorem rincluded_arg (r : ByteArray) (size index : Int) (leaf : ByteArray) (pv : Value) (w : World) (hrs : r.size ≤ maxLen) (hpv : ∃ p n cap, pv = .slice p n cap) (h : ¬ (Pl.isSumB r = true ∧ Pl.ansB size index leaf = true)) :
    Calls Tryz.prog 57 #[.string r, .agg #[.int .i64 size, .int .i64 index, .string leaf, pv]] w fun e w' => e = .returned (.int .i64 1) ∧ Below w.heap.size w w' := by
  obtain ⟨p, n, cap, rfl⟩ := hpv
  have his := fun w => rissum_any r w hrs
  have han := fun w => ranswers_any size index leaf (.slice p n cap) w
  cases h1 : Pl.isSumB r with
  | false =>
    rw [h1] at his
    cases h2 : Pl.ansB size index leaf with
    | false =>
      rw [h2] at han
      clear h h1 h2
      go_enter Tryz.func57, Tryz.ntmps57
      go_wp2_with fail
      refine (his _).mono ?_
      rintro e w1 ⟨rfl, rfl⟩
      go_wp2_with fail
      refine (han _).mono ?_
      rintro e w2 ⟨rfl, hb⟩
      go_wp2_with fail
      go_ret
      exact ⟨rfl, ((Below.refl _ _).alloc (Nat.le_refl _) _).trans (hb.mono (by simp))⟩
    | true =>
      rw [h2] at han
      clear h h1 h2
      go_enter Tryz.func57, Tryz.ntmps57
      go_wp2_with fail
      refine (his _).mono ?_
      rintro e w1 ⟨rfl, rfl⟩
      go_wp2_with fail
      refine (han _).mono ?_
      rintro e w2 ⟨rfl, hb⟩
      go_wp2_with fail
      go_ret
      exact ⟨rfl, ((Below.refl _ _).alloc (Nat.le_refl _) _).trans (hb.mono (by simp))⟩
  | true =>
    rw [h1] at his
    cases h2 : Pl.ansB size index leaf with
    | true => exact absurd ⟨h1, h2⟩ h
    | false =>
      rw [h2] at han
      clear h h1 h2
      go_enter Tryz.func57, Tryz.ntmps57
      go_wp2_with fail
      refine (his _).mono ?_
      rintro e w1 ⟨rfl, rfl⟩
      go_wp2_with fail
      refine (han _).mono ?_
      rintro e w2 ⟨rfl, hb⟩
      go_wp2_with fail
      go_ret
      exact ⟨rfl, ((Below.refl _ _).alloc (Nat.le_refl _) _).trans (hb.mono (by simp))⟩

set_option maxRecDepth 100000 in
set_option maxHeartbeats 2000000 in
theorem rincluded_fold (r : ByteArray) (n i : Nat) (leaf : ByteArray) (p : Option Addr) (cap : Nat) (path : List ByteArray) (w : World) (hrs : r.size ≤ maxLen) (hr : Row w p path) (hpc : path.length ≤ cap) (hcm : cap ≤ 9223372036854775807) (h1 : Pl.isSumB r = true) (h2 : Pl.ansB n i leaf = true) :
    Calls Tryz.prog 57 #[.string r, .agg #[.int .i64 n, .int .i64 i, .string leaf, .slice p path.length cap]] w fun e w' => e = .returned (.int .i64 (inclE r n i leaf path)) ∧ Below w.heap.size w w' := by
  have his := fun w => rissum_any r w hrs
  have han := fun w => ranswers_any n i leaf (.slice p path.length cap) w
  rw [h1] at his
  rw [h2] at han
  obtain ⟨hn1, hn2, _, hin, hlf⟩ := (ansB_iff _ _ _).1 h2
  have HX : Hid (inclE r n i leaf path = match Pl.leafT leaf i n path with
    | none => 6
    | some (_, x) => if x = r then 0 else 6) := by
    show _ = _
    unfold inclE
    rw [if_pos ⟨h1, h2⟩, Int.toNat_natCast, Int.toNat_natCast]
  have HR : Hid (Row w p path) := hr
  clear hr h1 h2
  go_enter Tryz.func57, Tryz.ntmps57
  go_wp2_with fail
  refine (his _).mono ?_
  rintro e w1 ⟨rfl, rfl⟩
  go_wp2_with fail
  refine (han _).mono ?_
  rintro e w2 ⟨rfl, hb⟩
  obtain ⟨q0, q1, q2, q3, hz⟩ := box4 hb
  have k2 : Below w.heap.size w w2 := ((Below.refl _ _).alloc (Nat.le_refl _) _).trans (hb.mono (by simp))
  clear hb
  have hB2 : Below w2.heap.size w2 (w2.alloc (.cells #[.slice none 0 0, .bool true] 99)) := (Below.refl _ _).alloc (Nat.le_refl _) _
  have hL := fleaf_any n w2.heap.size w2.heap.size w2 p cap path leaf i n [] _ (Nat.le_refl _) (by omega) (by omega) (by omega) hlf (by simp; omega) hpc hcm (Nat.le_refl _) (HR.out.grow k2 (Nat.le_refl _)) hB2 (by simp) (fold_new w2)
  have hlt2 : w.heap.size < w2.heap.size := hz
  cases hx : Pl.leafT leaf i n path with
  | none =>
    rw [hx] at hL HX
    clear hx
    go_wp2_with fail
    refine hL.mono ?_
    rintro e w3 ⟨hb3, hend⟩
    rcases hend with ⟨_, _, he, _⟩ | ⟨_, x, ts', rfl, _, h3⟩
    · cases he
    obtain ⟨c3, _⟩ := h3.cells
    have k3 := k2.trans ((hB2.trans hb3).mono k2.size)
    clear h3 hb3 hB2
    go_wp2_with fail
    go_ret
    exact ⟨ret_int HX.out.symm, k3⟩
  | some y =>
    obtain ⟨t, x⟩ := y
    rw [hx] at hL HX
    clear hx
    by_cases hxr : x = r
    · subst hxr
      have HX2 : Hid (inclE x n i leaf path = 0) := by show _ = _; rw [HX.out]; exact if_pos rfl
      clear HX
      go_wp2_with fail
      refine hL.mono ?_
      rintro e w3 ⟨hb3, hend⟩
      rcases hend with ⟨t', x', he, rfl, h3⟩ | ⟨he, _⟩
      · simp only [Option.some.injEq, Prod.mk.injEq] at he
        obtain ⟨rfl, rfl⟩ := he
        obtain ⟨c3, _⟩ := h3.cells
        have k3 := k2.trans ((hB2.trans hb3).mono k2.size)
        clear h3 hb3 hB2
        go_wp2_with fail
        go_ret
        exact ⟨ret_int HX2.out.symm, k3⟩
      · cases he
    · have HX2 : Hid (inclE r n i leaf path = 6) := by show _ = _; rw [HX.out]; exact if_neg hxr
      have hne := str_ne hxr
      clear HX hxr
      go_wp2_with fail
      refine hL.mono ?_
      rintro e w3 ⟨hb3, hend⟩
      rcases hend with ⟨t', x', he, rfl, h3⟩ | ⟨he, _⟩
      · simp only [Option.some.injEq, Prod.mk.injEq] at he
        obtain ⟨rfl, rfl⟩ := he
        obtain ⟨c3, _⟩ := h3.cells
        have k3 := k2.trans ((hB2.trans hb3).mono k2.size)
        clear h3 hb3 hB2
        go_wp2_with fail
        go_ret
        exact ⟨ret_int HX2.out.symm, k3⟩
      · cases he

theorem rincluded_any (r : ByteArray) (size index : Int) (leaf : ByteArray) (p : Option Addr) (cap : Nat) (path : List ByteArray) (w : World) (hrs : r.size ≤ maxLen) (hr : Row w p path) (hpc : path.length ≤ cap) (hcm : cap ≤ 9223372036854775807) :
    Calls Tryz.prog 57 #[.string r, .agg #[.int .i64 size, .int .i64 index, .string leaf, .slice p path.length cap]] w fun e w' => e = .returned (.int .i64 (inclE r size index leaf path)) ∧ Below w.heap.size w w' := by
  by_cases h : Pl.isSumB r = true ∧ Pl.ansB size index leaf = true
  · obtain ⟨h1, h2⟩ := h
    obtain ⟨ha, _, hb, _⟩ := (ansB_iff _ _ _).1 h2
    obtain ⟨n, rfl⟩ := Int.eq_ofNat_of_zero_le (show 0 ≤ size by omega)
    obtain ⟨i, rfl⟩ := Int.eq_ofNat_of_zero_le hb
    exact rincluded_fold r n i leaf p cap path w hrs hr hpc hcm h1 h2
  · rw [inclE_arg h]
    exact rincluded_arg r size index leaf _ w hrs ⟨_, _, _, rfl⟩ h

/-- What Extended is to answer. -/
def extOK (os : Int) (a : ByteArray) (fs : Int) (b : ByteArray) : Prop := Pl.isSumB a = true ∧ Pl.isSumB b = true ∧ 1 ≤ os ∧ os ≤ fs ∧ fs ≤ 40
def extV (a b : ByteArray) (x : Option (List ByteArray × ByteArray × ByteArray)) : Int :=
  match x with
  | none => 6
  | some (_, c, d) => if c = a ∧ d = b then 0 else 6
theorem extV_yes (a b : ByteArray) (t : List ByteArray) : extV a b (some (t, a, b)) = 0 := if_pos ⟨rfl, rfl⟩
theorem extV_no {a b c d : ByteArray} {t : List ByteArray} (h : ¬ (c = a ∧ d = b)) : extV a b (some (t, c, d)) = 6 := if_neg h

set_option maxRecDepth 100000 in
set_option maxHeartbeats 2000000 in
theorem rextended_arg (os fs : Int) (a b : ByteArray) (pv : Value) (w : World) (ha : a.size ≤ maxLen) (hb : b.size ≤ maxLen) (h : ¬ extOK os a fs b) :
    Calls Tryz.prog 55 #[.agg #[.int .i64 os, .string a], .agg #[.int .i64 fs, .string b], pv] w fun e w' => e = .returned (.int .i64 1) ∧ Below w.heap.size w w' := by
  have hA := fun w => rissum_any a w ha
  have hBs := fun w => rissum_any b w hb
  have k2 : Below w.heap.size w ((w.alloc (.cells #[.int .i64 os, .string a] 59)).alloc (.cells #[.int .i64 fs, .string b] 59)) := ((Below.refl _ _).alloc (Nat.le_refl _) _).alloc (by simp) _
  have HN : Hid (¬ extOK os a fs b) := h
  clear h
  cases h1 : Pl.isSumB a with
  | false =>
    rw [h1] at hA
    go_enter Tryz.func55, Tryz.ntmps55
    go_wp2_with fail
    refine (hA _).mono ?_
    rintro e w1 ⟨rfl, rfl⟩
    go_wp2_with fail
    refine (hBs _).mono ?_
    rintro e w1 ⟨rfl, rfl⟩
    go_wp2_with fail
    go_ret
    exact ⟨rfl, k2⟩
  | true =>
    rw [h1] at hA
    cases h2 : Pl.isSumB b with
    | false =>
      rw [h2] at hBs
      go_enter Tryz.func55, Tryz.ntmps55
      go_wp2_with fail
      refine (hA _).mono ?_
      rintro e w1 ⟨rfl, rfl⟩
      go_wp2_with fail
      refine (hBs _).mono ?_
      rintro e w1 ⟨rfl, rfl⟩
      go_wp2_with fail
      go_ret
      exact ⟨rfl, k2⟩
    | true =>
      rw [h2] at hBs
      have hn : os < 1 ∨ fs < os ∨ 40 < fs := by
        have h := HN.out
        unfold extOK at h
        simp only [h1, h2, true_and] at h
        omega
      clear h1 h2
      by_cases g1 : os < 1
      · clear hn
        go_enter Tryz.func55, Tryz.ntmps55
        go_wp2_with fail
        refine (hA _).mono ?_
        rintro e w1 ⟨rfl, rfl⟩
        go_wp2_with fail
        refine (hBs _).mono ?_
        rintro e w1 ⟨rfl, rfl⟩
        go_wp2_with fail
        go_ret
        exact ⟨rfl, k2⟩
      · by_cases g2 : fs < os
        · clear hn
          go_enter Tryz.func55, Tryz.ntmps55
          go_wp2_with fail
          refine (hA _).mono ?_
          rintro e w1 ⟨rfl, rfl⟩
          go_wp2_with fail
          refine (hBs _).mono ?_
          rintro e w1 ⟨rfl, rfl⟩
          go_wp2_with fail
          go_ret
          exact ⟨rfl, k2⟩
        · have g3 : 40 < fs := by omega
          clear hn
          go_enter Tryz.func55, Tryz.ntmps55
          go_wp2_with fail
          refine (hA _).mono ?_
          rintro e w1 ⟨rfl, rfl⟩
          go_wp2_with fail
          refine (hBs _).mono ?_
          rintro e w1 ⟨rfl, rfl⟩
          go_wp2_with fail
          go_ret
          exact ⟨rfl, k2⟩

/-- Both, with a Fold that was made on the spot in block k. -/
theorem fboth_at {w : World} {k : Nat} (hk : w.heap.size = k) (p : Option Addr) (cap : Nat) (path : List ByteArray) (old : ByteArray) (m n : Nat) (h1 : 1 ≤ m) (h2 : m ≤ n) (h40 : n ≤ 40) (ho : old.size = 4) (hpc : path.length ≤ cap) (hcm : cap ≤ 9223372036854775807) (hr : Row w p path) :
    Calls Tryz.prog 67 #[.pointer (some ⟨k, 0, none⟩), .string old, .int .i64 m, .int .i64 n, .bool true, .slice p path.length cap] (w.alloc (.cells #[.slice none 0 0, .bool true] 99)) fun e w' => Below k w w' ∧
      ((∃ t a b, Pl.bothT old m n true path = some (t, a, b) ∧ e = .returned (.tuple #[.string a, .string b]) ∧ FoldAt w' k k ([] ++ t) true) ∨
      (Pl.bothT old m n true path = none ∧ ∃ a b ts', e = .returned (.tuple #[.string a, .string b]) ∧ ts'.length ≤ 0 + 2 * n ∧ FoldAt w' k k ts' false)) := by
  subst hk
  have hB : Below w.heap.size w (w.alloc (.cells #[.slice none 0 0, .bool true] 99)) := (Below.refl _ _).alloc (Nat.le_refl _) _
  refine (fboth_any n w.heap.size w.heap.size w p cap path old m n true [] _ (Nat.le_refl _) h1 h2 h40 ho (by simp; omega) hpc hcm (Nat.le_refl _) hr hB (by simp) (fold_new w)).mono ?_
  rintro e w' ⟨hb, hend⟩
  exact ⟨hB.trans hb, hend⟩

set_option maxRecDepth 100000 in
set_option maxHeartbeats 2000000 in
theorem rextended_fold (m n : Nat) (a b : ByteArray) (p : Option Addr) (cap : Nat) (path : List ByteArray) (w : World) (ha : a.size ≤ maxLen) (hb : b.size ≤ maxLen) (hr : Row w p path) (hpc : path.length ≤ cap) (hcm : cap ≤ 9223372036854775807) (h : extOK m a n b) :
    Calls Tryz.prog 55 #[.agg #[.int .i64 m, .string a], .agg #[.int .i64 n, .string b], .slice p path.length cap] w fun e w' => e = .returned (.int .i64 (extV a b (Pl.bothT a m n true path))) ∧ Below w.heap.size w w' := by
  obtain ⟨h1, h2, h3, h4, h5⟩ := h
  have hA := fun w => rissum_any a w ha
  have hBs := fun w => rissum_any b w hb
  rw [h1] at hA
  rw [h2] at hBs
  have ha4 := isSumB_size h1
  obtain ⟨hm1, hm2, hm3⟩ : 1 ≤ m ∧ m ≤ n ∧ n ≤ 40 := by omega
  have k2 : Below w.heap.size w ((w.alloc (.cells #[.int .i64 m, .string a] 59)).alloc (.cells #[.int .i64 n, .string b] 59)) := ((Below.refl _ _).alloc (Nat.le_refl _) _).alloc (by simp) _
  have hL := fboth_at (w := (w.alloc (.cells #[.int .i64 m, .string a] 59)).alloc (.cells #[.int .i64 n, .string b] 59)) (k := w.heap.size + 1 + 1) (by simp) p cap path a m n hm1 hm2 hm3 ha4 hpc hcm (hr.grow k2 (Nat.le_refl _))
  have hcells : ∀ w3, Below (w.heap.size + 1 + 1) ((w.alloc (.cells #[.int .i64 m, .string a] 59)).alloc (.cells #[.int .i64 n, .string b] 59)) w3 → w3.cell? ⟨w.heap.size, 1, none⟩ = some (.string a) ∧ w3.cell? ⟨w.heap.size + 1, 1, none⟩ = some (.string b) := by
    intro w3 h3
    constructor
    · rw [h3.cell (p := ⟨w.heap.size, 1, none⟩) (by simp; omega), World.cell?_alloc_past _ _ _ (by simp), World.cell?_alloc_mark]
      rfl
    · rw [h3.cell (p := ⟨w.heap.size + 1, 1, none⟩) (by simp)]
      simp
  have HC : Hid _ := hcells
  clear hr h1 h2 hcells
  cases hx : Pl.bothT a m n true path with
  | none =>
    rw [hx] at hL
    clear hx
    go_enter Tryz.func55, Tryz.ntmps55
    go_wp2_with fail
    refine (hA _).mono ?_
    rintro e w1 ⟨rfl, rfl⟩
    go_wp2_with fail
    refine (hBs _).mono ?_
    rintro e w1 ⟨rfl, rfl⟩
    go_wp2_with fail
    refine hL.mono ?_
    rintro e w3 ⟨hb3, hend⟩
    rcases hend with ⟨_, _, _, he, _⟩ | ⟨_, c, d, ts', rfl, _, h3⟩
    · cases he
    obtain ⟨c3, _⟩ := h3.cells
    obtain ⟨r1, r2⟩ := HC.out _ hb3
    have k3 := k2.trans (hb3.mono (by omega))
    clear h3 hb3 HC hL
    go_wp2_with fail
    go_ret
    exact ⟨rfl, k3⟩
  | some y =>
    obtain ⟨t, c, d⟩ := y
    rw [hx] at hL
    clear hx
    by_cases hc : c = a
    · by_cases hd : d = b
      · subst hc hd
        rw [extV_yes]
        go_enter Tryz.func55, Tryz.ntmps55
        go_wp2_with fail
        refine (hA _).mono ?_
        rintro e w1 ⟨rfl, rfl⟩
        go_wp2_with fail
        refine (hBs _).mono ?_
        rintro e w1 ⟨rfl, rfl⟩
        go_wp2_with fail
        refine hL.mono ?_
        rintro e w3 ⟨hb3, hend⟩
        rcases hend with ⟨t', c', d', he, rfl, h3⟩ | ⟨he, _⟩
        · simp only [Option.some.injEq, Prod.mk.injEq] at he
          obtain ⟨rfl, rfl, rfl⟩ := he
          obtain ⟨c3, _⟩ := h3.cells
          obtain ⟨r1, r2⟩ := HC.out _ hb3
          have k3 := k2.trans (hb3.mono (by omega))
          clear h3 hb3 HC hL
          go_wp2_with fail
          go_ret
          exact ⟨rfl, k3⟩
        · cases he
      · rw [extV_no (fun h => hd h.2)]
        subst hc
        have hne := str_ne hd
        clear hd
        go_enter Tryz.func55, Tryz.ntmps55
        go_wp2_with fail
        refine (hA _).mono ?_
        rintro e w1 ⟨rfl, rfl⟩
        go_wp2_with fail
        refine (hBs _).mono ?_
        rintro e w1 ⟨rfl, rfl⟩
        go_wp2_with fail
        refine hL.mono ?_
        rintro e w3 ⟨hb3, hend⟩
        rcases hend with ⟨t', c', d', he, rfl, h3⟩ | ⟨he, _⟩
        · simp only [Option.some.injEq, Prod.mk.injEq] at he
          obtain ⟨rfl, rfl, rfl⟩ := he
          obtain ⟨c3, _⟩ := h3.cells
          obtain ⟨r1, r2⟩ := HC.out _ hb3
          have k3 := k2.trans (hb3.mono (by omega))
          clear h3 hb3 HC hL
          go_wp2_with fail
          go_ret
          exact ⟨rfl, k3⟩
        · cases he
    · rw [extV_no (fun h => hc h.1)]
      have hne := str_ne hc
      clear hc
      go_enter Tryz.func55, Tryz.ntmps55
      go_wp2_with fail
      refine (hA _).mono ?_
      rintro e w1 ⟨rfl, rfl⟩
      go_wp2_with fail
      refine (hBs _).mono ?_
      rintro e w1 ⟨rfl, rfl⟩
      go_wp2_with fail
      refine hL.mono ?_
      rintro e w3 ⟨hb3, hend⟩
      rcases hend with ⟨t', c', d', he, rfl, h3⟩ | ⟨he, _⟩
      · simp only [Option.some.injEq, Prod.mk.injEq] at he
        obtain ⟨rfl, rfl, rfl⟩ := he
        obtain ⟨c3, _⟩ := h3.cells
        obtain ⟨r1, r2⟩ := HC.out _ hb3
        have k3 := k2.trans (hb3.mono (by omega))
        clear h3 hb3 HC hL
        go_wp2_with fail
        go_ret
        exact ⟨rfl, k3⟩
      · cases he

/-- What Extended is to answer, in all. -/
def extE (os : Int) (a : ByteArray) (fs : Int) (b : ByteArray) (path : List ByteArray) : Int :=
  if Pl.isSumB a = true ∧ Pl.isSumB b = true ∧ 1 ≤ os ∧ os ≤ fs ∧ fs ≤ 40 then extV a b (Pl.bothT a os.toNat fs.toNat true path) else 1

theorem rextended_any (os fs : Int) (a b : ByteArray) (p : Option Addr) (cap : Nat) (path : List ByteArray) (w : World) (ha : a.size ≤ maxLen) (hb : b.size ≤ maxLen) (hr : Row w p path) (hpc : path.length ≤ cap) (hcm : cap ≤ 9223372036854775807) :
    Calls Tryz.prog 55 #[.agg #[.int .i64 os, .string a], .agg #[.int .i64 fs, .string b], .slice p path.length cap] w fun e w' => e = .returned (.int .i64 (extE os a fs b path)) ∧ Below w.heap.size w w' := by
  unfold extE
  by_cases h : Pl.isSumB a = true ∧ Pl.isSumB b = true ∧ 1 ≤ os ∧ os ≤ fs ∧ fs ≤ 40
  · rw [if_pos h]
    obtain ⟨m, rfl⟩ := Int.eq_ofNat_of_zero_le (show 0 ≤ os by omega)
    obtain ⟨n, rfl⟩ := Int.eq_ofNat_of_zero_le (show 0 ≤ fs by omega)
    rw [Int.toNat_natCast, Int.toNat_natCast]
    exact rextended_fold m n a b p cap path w ha hb hr hpc hcm h
  · rw [if_neg h]
    exact rextended_arg os fs a b _ w ha hb h

end Go.Proofs.YtkhnjipjbhcgdaaGreat
