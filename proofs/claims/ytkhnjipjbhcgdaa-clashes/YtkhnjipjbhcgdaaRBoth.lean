/-
  THE WALK of treeheadref's (*Fold).Both.
-/
import Derived.Test.YtkhnjipjbhcgdaaRLeaf2
namespace Go.Proofs.Ytkhnjipjbhcgdaa
open Go.RowKit

/-- How a fold to two roots ends. -/
def BothEnd (B F : Nat) (ts : List ByteArray) (n : Nat) (x : Option (List ByteArray × ByteArray × ByteArray)) (e : Ending) (w w' : World) : Prop :=
  Below B w w' ∧ ((∃ t a b, x = some (t, a, b) ∧ e = .returned (.tuple #[.string a, .string b]) ∧ FoldAt w' B F (ts ++ t) true) ∨
    (x = none ∧ ∃ a b ts', e = .returned (.tuple #[.string a, .string b]) ∧ ts'.length ≤ ts.length + 2 * n ∧ FoldAt w' B F ts' false))

theorem bothF_facts : ∀ (f : Nat) (old : ByteArray) (m n : Nat) (q : Bool) (p t : List ByteArray) (a b : ByteArray), old.size = 4 → 1 ≤ m → m ≤ n → Pl.bothF f old m n q p = some (t, a, b) → a.size = 4 ∧ b.size = 4 ∧ t.length ≤ 2 * n := by
  intro f
  induction f with
  | zero => intro old m n q p t a b _ _ _ h; simp [Pl.bothF] at h
  | succ f ih =>
    intro old m n q p t a b ho h1 hmn h
    unfold Pl.bothF at h
    split at h
    · split at h
      · simp only [Option.some.injEq, Prod.mk.injEq] at h
        obtain ⟨rfl, rfl, rfl⟩ := h
        exact ⟨ho, ho, by simp⟩
      · cases h
    · split at h
      · cases h
      · rename_i l _
        split at h
        · cases h
        · rename_i hs
          have hs' : Pl.isSumB l = true := by simpa using hs
          split at h
          · split at h
            · simp only [Option.some.injEq, Prod.mk.injEq] at h
              obtain ⟨rfl, rfl, rfl⟩ := h
              exact ⟨isSumB_size hs', isSumB_size hs', by simp⟩
            · cases h
          · rename_i hne
            have hp := Pl.half_pos n
            have hl := Pl.half_lt n (by omega)
            split at h
            · rename_i hle
              split at h
              · cases h
              · rename_i t' a' b' he
                simp only [Option.some.injEq, Prod.mk.injEq] at h
                obtain ⟨rfl, rfl, rfl⟩ := h
                have := ih old m (Pl.half n) q _ t' _ b' ho h1 hle he
                exact ⟨this.1, rfl, by rw [List.length_append, List.length_singleton]; omega⟩
            · split at h
              · cases h
              · rename_i t' a' b' he
                simp only [Option.some.injEq, Prod.mk.injEq] at h
                obtain ⟨rfl, rfl, rfl⟩ := h
                have := ih old _ (n - Pl.half n) false _ t' a' b' ho (by omega) (by omega) he
                exact ⟨rfl, rfl, by rw [List.length_append]; simp; omega⟩
theorem bothT_facts {old : ByteArray} {m n : Nat} {q : Bool} {p t : List ByteArray} {a b : ByteArray} (ho : old.size = 4) (h1 : 1 ≤ m) (h2 : m ≤ n) (h : Pl.bothT old m n q p = some (t, a, b)) : a.size = 4 ∧ b.size = 4 ∧ t.length ≤ 2 * n := bothF_facts n old m n q p t a b ho h1 h2 h

theorem FoldAt.same {w : World} {B F : Nat} {ts : List ByteArray} {ok : Bool} (h : FoldAt w B F ts ok) : FoldAt w B F (ts ++ []) ok := by rw [List.append_nil]; exact h

set_option maxRecDepth 100000 in
set_option maxHeartbeats 1000000 in
theorem fboth_whole (B F : Nat) (ts : List ByteArray) (p : Option Addr) (cap : Nat) (path : List ByteArray) (old : ByteArray) (n : Nat) (w : World) (h : FoldAt w B F ts true) (h1 : 1 ≤ n) (h40 : n ≤ 40) (hlen : path.length ≤ 9223372036854775807) :
    Calls Try.prog 83 #[.pointer (some ⟨F, 0, none⟩), .string old, .int .i64 n, .int .i64 n, .bool true, .slice p path.length cap] w fun e w' => BothEnd B F ts n (Pl.bothT old n n true path) e w w' := by
  have hq := beq_self_int n
  obtain ⟨c1, f1⟩ := h.cells
  have HF : Hid (FoldAt w B F ts true) := h
  by_cases hp : path = []
  · subst hp
    have HX : Hid (Pl.bothT old n n true [] = some ([], old, old)) := by show _ = _; rw [Pl.bothT_whole _ _ _ h1, if_pos rfl]
    clear h
    go_enter Try.func83, Try.ntmps83
    go_wp2_with fail
    go_ret2
    exact ⟨Below.refl _ _, Or.inl ⟨_, _, _, HX.out, rfl, HF.out.same⟩⟩
  · have HX : Hid (Pl.bothT old n n true path = none) := by show _ = _; rw [Pl.bothT_whole _ _ _ h1, if_neg hp]
    have hpos : 0 < path.length := List.length_pos_iff.2 hp
    clear h hp
    go_enter Try.func83, Try.ntmps83
    go_wp2_with fail
    go_ret2
    exact ⟨(Below.refl B w).setCell HF.out.le _, Or.inr ⟨HX.out, _, _, ts, rfl, by omega, HF.out.setOK false⟩⟩

set_option maxRecDepth 100000 in
set_option maxHeartbeats 1000000 in
theorem fboth_nolast (B F : Nat) (ts : List ByteArray) (p : Option Addr) (cap : Nat) (old : ByteArray) (m n : Nat) (q : Bool) (w : World) (h : FoldAt w B F ts true) (h1 : 1 ≤ m) (h2 : m ≤ n) (h40 : n ≤ 40) (hq : m < n ∨ q = false) :
    Calls Try.prog 83 #[.pointer (some ⟨F, 0, none⟩), .string old, .int .i64 m, .int .i64 n, .bool q, .slice p 0 cap] w fun e w' => BothEnd B F ts n (Pl.bothT old m n q []) e w w' := by
  have hL := flast_none B F ts p cap w h
  by_cases hmn : m = n
  · subst hmn
    obtain rfl : q = false := by rcases hq with h | h <;> first | omega | exact h
    have HX : Hid (Pl.bothT old m m false [] = none) := by show _ = _; rw [Pl.bothT_part _ _ _ h1]; rfl
    have hb := beq_self_int m
    clear h hq
    go_enter Try.func83, Try.ntmps83
    go_wp2_with fail
    refine hL.mono ?_
    rintro e w1 ⟨rfl, h1, hb1⟩
    obtain ⟨c1, _⟩ := h1.cells
    have HF1 : Hid (FoldAt w1 B F ts false) := h1
    clear h1
    go_wp2_with fail
    go_ret2
    exact ⟨hb1, Or.inr ⟨HX.out, _, _, ts, rfl, by omega, HF1.out⟩⟩
  · have HX : Hid (Pl.bothT old m n q [] = none) := by show _ = _; rw [Pl.bothT_more _ _ _ _ _ h1 (by omega)]; rfl
    have hb : ((m : Int) == (n : Int)) = false := beq_eq_false_iff_ne.2 (by omega)
    clear h hq
    go_enter Try.func83, Try.ntmps83
    go_wp2_with fail
    refine hL.mono ?_
    rintro e w1 ⟨rfl, h1, hb1⟩
    obtain ⟨c1, _⟩ := h1.cells
    have HF1 : Hid (FoldAt w1 B F ts false) := h1
    clear h1
    go_wp2_with fail
    go_ret2
    exact ⟨hb1, Or.inr ⟨HX.out, _, _, ts, rfl, by omega, HF1.out⟩⟩

set_option maxRecDepth 100000 in
set_option maxHeartbeats 1000000 in
theorem fboth_badlast (B F : Nat) (ts : List ByteArray) (p : Option Addr) (cap : Nat) (path : List ByteArray) (l old : ByteArray) (m n : Nat) (q : Bool) (w : World) (h : FoldAt w B F ts true) (h1 : 1 ≤ m) (h2 : m < n) (h40 : n ≤ 40) (hr : Row w p path) (hl : path.getLast? = some l) (hs : Pl.isSumB l = false) :
    Calls Try.prog 83 #[.pointer (some ⟨F, 0, none⟩), .string old, .int .i64 m, .int .i64 n, .bool q, .slice p path.length cap] w fun e w' => BothEnd B F ts n (Pl.bothT old m n q path) e w w' := by
  have hL := flast_bad B F ts p cap path l w h hr hl hs
  have HX : Hid (Pl.bothT old m n q path = none) := by show _ = _; rw [Pl.bothT_more _ _ _ _ _ h1 h2, hl]; simp only [hs, if_true]
  have hb : ((m : Int) == (n : Int)) = false := beq_eq_false_iff_ne.2 (by omega)
  have hlen : path.length ≤ 9223372036854775807 := hr.len
  clear h hr hl hs
  go_enter Try.func83, Try.ntmps83
  go_wp2_with fail
  refine hL.mono ?_
  rintro e w1 ⟨rfl, h1, hb1⟩
  obtain ⟨c1, _⟩ := h1.cells
  have HF1 : Hid (FoldAt w1 B F ts false) := h1
  clear h1
  go_wp2_with fail
  go_ret2
  exact ⟨hb1, Or.inr ⟨HX.out, _, _, ts, rfl, by omega, HF1.out⟩⟩

set_option maxRecDepth 100000 in
set_option maxHeartbeats 1000000 in
theorem fboth_same (B F : Nat) (ts : List ByteArray) (p : Option Addr) (cap : Nat) (path : List ByteArray) (l old : ByteArray) (n : Nat) (w : World) (h : FoldAt w B F ts true) (h1 : 1 ≤ n) (h40 : n ≤ 40) (hr : Row w p path) (hl : path.getLast? = some l) :
    Calls Try.prog 83 #[.pointer (some ⟨F, 0, none⟩), .string old, .int .i64 n, .int .i64 n, .bool false, .slice p path.length cap] w fun e w' => BothEnd B F ts n (Pl.bothT old n n false path) e w w' := by
  have hq := beq_self_int n
  have hlen : path.length ≤ 9223372036854775807 := hr.len
  obtain ⟨b0, o0, rfl, _, _, hpos⟩ := last_cell hr hl
  have HX := Pl.bothT_part old n path h1
  rw [hl] at HX
  have HF : Hid (FoldAt w B F ts true) := h
  obtain ⟨d1, g1⟩ := h.cells
  cases hs : Pl.isSumB l with
  | false =>
    have hL := flast_bad B F ts _ cap path l w h hr hl hs
    have HN : Hid (Pl.bothT old n n false path = none) := by show _ = _; rw [HX]; simp only [hs, if_true]
    clear h hr hl hs HX
    by_cases hlong : 1 < path.length
    · go_enter Try.func83, Try.ntmps83
      go_wp2_with fail
      refine hL.mono ?_
      rintro e w1 ⟨rfl, h1, hb1⟩
      obtain ⟨c1, f1⟩ := h1.cells
      have HF1 : Hid (FoldAt w1 B F ts false) := h1
      clear h1
      go_wp2_with fail
      go_ret2
      exact ⟨hb1.setCell HF1.out.le _, Or.inr ⟨HN.out, _, _, ts, rfl, by omega, HF1.out.setOK false⟩⟩
    · go_enter Try.func83, Try.ntmps83
      go_wp2_with fail
      refine hL.mono ?_
      rintro e w1 ⟨rfl, h1, hb1⟩
      obtain ⟨c1, f1⟩ := h1.cells
      have HF1 : Hid (FoldAt w1 B F ts false) := h1
      clear h1
      go_wp2_with fail
      go_ret2
      exact ⟨hb1, Or.inr ⟨HN.out, _, _, ts, rfl, by omega, HF1.out⟩⟩
  | true =>
    have hL := flast_good F _ cap path l w hr hl hs
    by_cases hlong : 1 < path.length
    · have HN : Hid (Pl.bothT old n n false path = none) := by show _ = _; rw [HX]; simp only [hs, Bool.true_eq_false, if_false]; rw [if_neg (by omega)]
      clear h hr hl hs HX
      go_enter Try.func83, Try.ntmps83
      go_wp2_with fail
      refine hL.mono ?_
      rintro e w1 ⟨rfl, rfl⟩
      go_wp2_with fail
      go_ret2
      exact ⟨(Below.refl B _).setCell HF.out.le _, Or.inr ⟨HN.out, _, _, ts, rfl, by omega, HF.out.setOK false⟩⟩
    · have HN : Hid (Pl.bothT old n n false path = some ([], l, l)) := by show _ = _; rw [HX]; simp only [hs, Bool.true_eq_false, if_false]; rw [if_pos (by omega)]
      clear h hr hl hs HX
      go_enter Try.func83, Try.ntmps83
      go_wp2_with fail
      refine hL.mono ?_
      rintro e w1 ⟨rfl, rfl⟩
      go_wp2_with fail
      go_ret2
      exact ⟨Below.refl _ _, Or.inl ⟨_, _, _, HN.out, rfl, HF.out.same⟩⟩

set_option maxRecDepth 100000 in
set_option maxHeartbeats 2000000 in
theorem fboth_left (B F : Nat) (ts : List ByteArray) (p : Option Addr) (cap : Nat) (path : List ByteArray) (l old : ByteArray) (m n : Nat) (q : Bool) (w : World) (h : FoldAt w B F ts true) (hB : B ≤ w.heap.size) (ho : old.size = 4) (h1 : 1 ≤ m) (h2 : m < n) (h40 : n ≤ 40) (hi : m ≤ Pl.half n) (hpc : path.length ≤ cap) (hcm : cap ≤ 9223372036854775807) (hts : ts.length + 2 * n ≤ 3000) (hr : Row w p path) (hl : path.getLast? = some l) (hs : Pl.isSumB l = true)
    (ih : Calls Try.prog 83 #[.pointer (some ⟨F, 0, none⟩), .string old, .int .i64 m, .int .i64 (Pl.half n : Nat), .bool q, .slice p (path.length - 1) cap] w fun e w' => BothEnd B F ts (Pl.half n) (Pl.bothT old m (Pl.half n) q path.dropLast) e w w') :
    Calls Try.prog 83 #[.pointer (some ⟨F, 0, none⟩), .string old, .int .i64 m, .int .i64 n, .bool q, .slice p path.length cap] w fun e w' => BothEnd B F ts n (Pl.bothT old m n q path) e w w' := by
  have hp := Pl.half_pos n
  have hlt := Pl.half_lt n (by omega)
  have HX : Hid (Pl.bothT old m n q path = match (Pl.bothT old m (Pl.half n) q path.dropLast) with
          | none => none
          | some (t, a, b) => some (t ++ [Pl.textN b l], a, Pl.sumB (Pl.textN b l))) := by
    show _ = _
    rw [Pl.bothT_more _ _ _ _ _ h1 h2, hl]
    simp only [hs, Bool.true_eq_false, if_false, if_pos hi]
    cases (Pl.bothT old m (Pl.half n) q path.dropLast) <;> rfl
  have hne : ((m : Int) == (n : Int)) = false := beq_eq_false_iff_ne.2 (by omega)
  have hL := flast_good F p cap path l w hr hl hs
  obtain ⟨b0, o0, rfl, _, _, hpos⟩ := last_cell hr hl
  obtain ⟨c1, _⟩ := h.cells
  have HBL : Hid _ := fun w => below_any n w (by omega) (by omega)
  have hl4 := isSumB_size hs
  have hl4' : l.size ≤ 4 := by omega
  have e1 : ((path.length : Int) - 1).toNat = path.length - 1 := by omega
  have HI : Hid _ := fun (_ : True) => ih
  have HF : Hid (FoldAt w B F ts true) := h
  have HT : Hid (∀ a, Pl.textN a l = ⟨#[78]⟩ ++ a ++ l) := fun _ => rfl
  cases hx : (Pl.bothT old m (Pl.half n) q path.dropLast) with
  | none =>
    rw [hx] at HX HI
    clear hx ih h hr hl hs hl4 ho
    generalize Pl.half n = k at *
    go_enter Try.func83, Try.ntmps83
    go_wp2_with fail
    refine hL.mono ?_
    rintro e w1 ⟨rfl, rfl⟩
    go_wp2_with fail
    refine (HBL.out _).mono ?_
    rintro e w1 ⟨rfl, rfl⟩
    go_wp2_with fail
    refine (HI.out trivial).mono ?_
    rintro e w2 ⟨hb2, hend⟩
    rcases hend with ⟨t, a, b, he, _⟩ | ⟨_, a, b, ts', rfl, hlen2, h3⟩
    · cases he
    obtain ⟨c3, _⟩ := h3.cells
    have HF3 : Hid (FoldAt w2 B F ts' false) := h3
    clear h3
    go_wp2_with fail
    go_ret2
    exact ⟨hb2, Or.inr ⟨HX.out, _, _, _, rfl, by omega, HF3.out⟩⟩
  | some x =>
    obtain ⟨t, a, b⟩ := x
    have hfacts := bothT_facts ho h1 hi hx
    rw [hx] at HX HI
    have ha4 : a.size ≤ 4 := by omega
    have hb4 : b.size ≤ 4 := by omega
    have ht := hfacts.2.2
    have hz : (Pl.textN b l).size ≤ 64 := by rw [textN_size]; omega
    clear hx ih h hr hl hs hl4 hfacts ho
    generalize Pl.half n = k at *
    go_enter Try.func83, Try.ntmps83
    go_wp2_with fail
    refine hL.mono ?_
    rintro e w1 ⟨rfl, rfl⟩
    go_wp2_with fail
    refine (HBL.out _).mono ?_
    rintro e w1 ⟨rfl, rfl⟩
    go_wp2_with fail
    refine (HI.out trivial).mono ?_
    rintro e w2 ⟨hb2, hend⟩
    rcases hend with ⟨t', a', b', he, rfl, h3⟩ | ⟨he, _⟩
    · simp only [Option.some.injEq, Prod.mk.injEq] at he
      obtain ⟨rfl, rfl, rfl⟩ := he
      obtain ⟨c3, _⟩ := h3.cells
      have HF3 : Hid (FoldAt w2 B F (ts ++ t) true) := h3
      have hs2 := hb2.size
      clear h3
      go_wp2_with fail
      rw [← HT.out]
      refine (fsum_any B F (ts ++ t) true _ _ HF3.out (by omega) hz (by rw [List.length_append]; omega)).mono ?_
      rintro e w4 ⟨rfl, h4, hbb4⟩
      have HF4 : Hid (FoldAt w4 B F (ts ++ t ++ [Pl.textN b l]) true) := h4
      clear h4
      go_wp2_with fail
      go_ret2
      exact ⟨hb2.trans hbb4, Or.inl ⟨_, _, _, HX.out, rfl, by rw [← List.append_assoc]; exact HF4.out⟩⟩
    · cases he

set_option maxRecDepth 100000 in
set_option maxHeartbeats 2000000 in
theorem fboth_right (B F : Nat) (ts : List ByteArray) (p : Option Addr) (cap : Nat) (path : List ByteArray) (l old : ByteArray) (m n : Nat) (q : Bool) (w : World) (h : FoldAt w B F ts true) (hB : B ≤ w.heap.size) (ho : old.size = 4) (h1 : 1 ≤ m) (h2 : m < n) (h40 : n ≤ 40) (hi : ¬ m ≤ Pl.half n) (hpc : path.length ≤ cap) (hcm : cap ≤ 9223372036854775807) (hts : ts.length + 2 * n ≤ 3000) (hr : Row w p path) (hl : path.getLast? = some l) (hs : Pl.isSumB l = true)
    (ih : Calls Try.prog 83 #[.pointer (some ⟨F, 0, none⟩), .string old, .int .i64 ((m : Int) - (Pl.half n : Int)), .int .i64 ((n : Int) - (Pl.half n : Int)), .bool false, .slice p (path.length - 1) cap] w fun e w' => BothEnd B F ts (n - Pl.half n) (Pl.bothT old (m - Pl.half n) (n - Pl.half n) false path.dropLast) e w w') :
    Calls Try.prog 83 #[.pointer (some ⟨F, 0, none⟩), .string old, .int .i64 m, .int .i64 n, .bool q, .slice p path.length cap] w fun e w' => BothEnd B F ts n (Pl.bothT old m n q path) e w w' := by
  have hp := Pl.half_pos n
  have hlt := Pl.half_lt n (by omega)
  have HX : Hid (Pl.bothT old m n q path = match (Pl.bothT old (m - Pl.half n) (n - Pl.half n) false path.dropLast) with
          | none => none
          | some (t, a, b) => some (t ++ [Pl.textN l a, Pl.textN l b], Pl.sumB (Pl.textN l a), Pl.sumB (Pl.textN l b))) := by
    show _ = _
    rw [Pl.bothT_more _ _ _ _ _ h1 h2, hl]
    simp only [hs, Bool.true_eq_false, if_false, if_neg hi]
    cases (Pl.bothT old (m - Pl.half n) (n - Pl.half n) false path.dropLast) <;> rfl
  have hne : ((m : Int) == (n : Int)) = false := beq_eq_false_iff_ne.2 (by omega)
  have hL := flast_good F p cap path l w hr hl hs
  obtain ⟨b0, o0, rfl, _, _, hpos⟩ := last_cell hr hl
  obtain ⟨c1, _⟩ := h.cells
  have HBL : Hid _ := fun w => below_any n w (by omega) (by omega)
  have hl4 := isSumB_size hs
  have hl4' : l.size ≤ 4 := by omega
  have e1 : ((path.length : Int) - 1).toNat = path.length - 1 := by omega
  have HI : Hid _ := fun (_ : True) => ih
  have HF : Hid (FoldAt w B F ts true) := h
  have HT : Hid (∀ a, Pl.textN l a = ⟨#[78]⟩ ++ l ++ a) := fun _ => rfl
  cases hx : (Pl.bothT old (m - Pl.half n) (n - Pl.half n) false path.dropLast) with
  | none =>
    rw [hx] at HX HI
    clear hx ih h hr hl hs hl4 ho
    generalize Pl.half n = k at *
    go_enter Try.func83, Try.ntmps83
    go_wp2_with fail
    refine hL.mono ?_
    rintro e w1 ⟨rfl, rfl⟩
    go_wp2_with fail
    refine (HBL.out _).mono ?_
    rintro e w1 ⟨rfl, rfl⟩
    go_wp2_with fail
    refine (HI.out trivial).mono ?_
    rintro e w2 ⟨hb2, hend⟩
    rcases hend with ⟨t, a, b, he, _⟩ | ⟨_, a, b, ts', rfl, hlen2, h3⟩
    · cases he
    obtain ⟨c3, _⟩ := h3.cells
    have HF3 : Hid (FoldAt w2 B F ts' false) := h3
    clear h3
    go_wp2_with fail
    go_ret2
    exact ⟨hb2, Or.inr ⟨HX.out, _, _, _, rfl, by omega, HF3.out⟩⟩
  | some x =>
    obtain ⟨t, a, b⟩ := x
    have hfacts := bothT_facts ho (by omega) (by omega) hx
    rw [hx] at HX HI
    have ha4 : a.size ≤ 4 := by omega
    have hb4 : b.size ≤ 4 := by omega
    have ht := hfacts.2.2
    have hz : (Pl.textN l a).size ≤ 64 := by rw [textN_size]; omega
    have hz2 : (Pl.textN l b).size ≤ 64 := by rw [textN_size]; omega
    clear hx ih h hr hl hs hl4 hfacts ho
    generalize Pl.half n = k at *
    go_enter Try.func83, Try.ntmps83
    go_wp2_with fail
    refine hL.mono ?_
    rintro e w1 ⟨rfl, rfl⟩
    go_wp2_with fail
    refine (HBL.out _).mono ?_
    rintro e w1 ⟨rfl, rfl⟩
    go_wp2_with fail
    refine (HI.out trivial).mono ?_
    rintro e w2 ⟨hb2, hend⟩
    rcases hend with ⟨t', a', b', he, rfl, h3⟩ | ⟨he, _⟩
    · simp only [Option.some.injEq, Prod.mk.injEq] at he
      obtain ⟨rfl, rfl, rfl⟩ := he
      obtain ⟨c3, _⟩ := h3.cells
      have HF3 : Hid (FoldAt w2 B F (ts ++ t) true) := h3
      have hs2 := hb2.size
      clear h3
      go_wp2_with fail
      rw [← HT.out]
      refine (fsum_any B F (ts ++ t) true _ _ HF3.out (by omega) hz (by rw [List.length_append]; omega)).mono ?_
      rintro e w4 ⟨rfl, h4, hbb4⟩
      have HF4 : Hid (FoldAt w4 B F (ts ++ t ++ [Pl.textN l a]) true) := h4
      have hs4 := hbb4.size
      clear h4
      go_wp2_with fail
      rw [← HT.out]
      refine (fsum_any B F (ts ++ t ++ [Pl.textN l a]) true _ _ HF4.out (by omega) hz2 (by rw [List.length_append, List.length_append]; simp; omega)).mono ?_
      rintro e w5 ⟨rfl, h5, hbb5⟩
      have HF5 : Hid (FoldAt w5 B F (ts ++ t ++ [Pl.textN l a] ++ [Pl.textN l b]) true) := h5
      clear h5
      go_wp2_with fail
      go_ret2
      refine ⟨(hb2.trans hbb4).trans hbb5, Or.inl ⟨_, _, _, HX.out, rfl, ?_⟩⟩
      have := HF5.out
      simpa using this
    · cases he

theorem fboth_any : ∀ (f B F : Nat) (w0 : World) (p : Option Addr) (cap : Nat) (path : List ByteArray) (old : ByteArray) (m n : Nat) (q : Bool) (ts : List ByteArray) (w : World),
    n ≤ f → 1 ≤ m → m ≤ n → n ≤ 40 → old.size = 4 → ts.length + 2 * n ≤ 3000 → path.length ≤ cap → cap ≤ 9223372036854775807 → w0.heap.size ≤ B → Row w0 p path → Below B w0 w → B ≤ w.heap.size → FoldAt w B F ts true →
    Calls Try.prog 83 #[.pointer (some ⟨F, 0, none⟩), .string old, .int .i64 m, .int .i64 n, .bool q, .slice p path.length cap] w fun e w' => BothEnd B F ts n (Pl.bothT old m n q path) e w w' := by
  intro f
  induction f with
  | zero => intro B F w0 p cap path old m n q ts w h h1 h2; omega
  | succ f ih =>
    intro B F w0 p cap path old m n q ts w h h1 h2 h40 hs hts hpc hcm h0 hr0 hb hB hF
    have hr := hr0.grow hb h0
    by_cases hmn : m = n
    · subst hmn
      cases q with
      | true => exact fboth_whole B F ts p cap path old m w hF h1 h40 hr0.len
      | false =>
        cases hl : path.getLast? with
        | none =>
          obtain rfl : path = [] := List.getLast?_eq_none_iff.1 hl
          exact fboth_nolast B F ts p cap old m m false w hF h1 (Nat.le_refl _) h40 (Or.inr rfl)
        | some l => exact fboth_same B F ts p cap path l old m w hF h1 h40 hr hl
    · have hp := Pl.half_pos n
      have hlt := Pl.half_lt n (by omega)
      cases hl : path.getLast? with
      | none =>
        obtain rfl : path = [] := List.getLast?_eq_none_iff.1 hl
        exact fboth_nolast B F ts p cap old m n q w hF h1 h2 h40 (Or.inl (by omega))
      | some l =>
        have e1 : path.dropLast.length = path.length - 1 := List.length_dropLast
        have hrd : Row w0 p path.dropLast := by rw [List.dropLast_eq_take]; exact hr0.take _
        cases hsl : Pl.isSumB l with
        | false => exact fboth_badlast B F ts p cap path l old m n q w hF h1 (by omega) h40 hr hl hsl
        | true =>
          by_cases hlf : m ≤ Pl.half n
          · refine fboth_left B F ts p cap path l old m n q w hF hB hs h1 (by omega) h40 hlf hpc hcm hts hr hl hsl ?_
            have := ih B F w0 p cap path.dropLast old m (Pl.half n) q ts w (by omega) h1 hlf (by omega) hs (by omega) (by omega) hcm h0 hrd hb hB hF
            rwa [e1] at this
          · refine fboth_right B F ts p cap path l old m n q w hF hB hs h1 (by omega) h40 hlf hpc hcm hts hr hl hsl ?_
            have := ih B F w0 p cap path.dropLast old (m - Pl.half n) (n - Pl.half n) false ts w (by omega) (by omega) (by omega) (by omega) hs (by omega) (by omega) hcm h0 hrd hb hB hF
            rwa [e1, show ((m - Pl.half n : Nat) : Int) = (m : Int) - (Pl.half n : Int) by omega, show ((n - Pl.half n : Nat) : Int) = (n : Int) - (Pl.half n : Int) by omega] at this

end Go.Proofs.Ytkhnjipjbhcgdaa
