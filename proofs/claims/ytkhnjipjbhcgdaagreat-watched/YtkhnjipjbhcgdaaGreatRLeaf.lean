import Derived.Test.YtkhnjipjbhcgdaaGreatRFold
/-
  THE WALKS of treeheadref's (*Fold).last and (*Fold).Leaf.
-/
namespace Go.Proofs.YtkhnjipjbhcgdaaGreat
open Go.RowKit

theorem FoldAt.setOK {w : World} {B F : Nat} {ts : List ByteArray} {ok : Bool} (h : FoldAt w B F ts ok) (b : Bool) : FoldAt (w.setCell ⟨F, 1, none⟩ (.bool b)) B F ts b := by
  obtain ⟨v, hg, ho⟩ := h.held
  exact ⟨h.le, h.short, h.size, v, set_two1 hg, ho.setFold hg⟩
theorem FoldAt.cells {w : World} {B F : Nat} {ts : List ByteArray} {ok : Bool} (h : FoldAt w B F ts ok) : w.cell? ⟨F, 1, none⟩ = some (.bool ok) ∧ w.frozen? ⟨F, 1, none⟩ = false := by
  obtain ⟨v, hg, ho⟩ := h.held
  obtain ⟨_, h1, _, h2⟩ := cell_two hg
  exact ⟨h1, h2⟩

set_option maxRecDepth 100000 in
set_option maxHeartbeats 400000 in
theorem flast_none (B F : Nat) (ts : List ByteArray) (p : Option Addr) (cap : Nat) (w : World) (h : FoldAt w B F ts true) :
    Calls Tryz.prog 78 #[.pointer (some ⟨F, 0, none⟩), .slice p 0 cap] w fun e w' => e = .returned (.string ⟨#[]⟩) ∧ FoldAt w' B F ts false ∧ Below B w w' := by
  obtain ⟨c1, f1⟩ := h.cells
  have HF : Hid (FoldAt w B F ts true) := h
  clear h
  go_enter Tryz.func78, Tryz.ntmps78
  go_wp2_with fail
  go_ret
  exact ⟨rfl, HF.out.setOK false, (Below.refl B w).setCell HF.out.le _⟩

theorem last_cell {w : World} {p : Option Addr} {ss : List ByteArray} {l : ByteArray} (hr : Row w p ss) (hl : ss.getLast? = some l) : ∃ b o, p = some ⟨b, o, none⟩ ∧ w.cell? ⟨b, o + (ss.length - 1), none⟩ = some (.string l) ∧ l.size ≤ maxLen ∧ 1 ≤ ss.length := by
  have hne : ss ≠ [] := by rintro rfl; simp at hl
  have hpos : 0 < ss.length := List.length_pos_iff.2 hne
  rcases hr.cell with h0 | ⟨b, o, h1, _, hc⟩
  · exact absurd h0 hne
  · have := hc (ss.length - 1) (by omega)
    rw [List.getLast?_eq_getElem?, List.getElem?_eq_getElem (by omega)] at hl
    simp only [Option.some.injEq] at hl
    rw [hl] at this
    exact ⟨b, o, h1, this, hr.size l (by rw [← hl]; exact List.getElem_mem _), hpos⟩

set_option maxRecDepth 100000 in
set_option maxHeartbeats 400000 in
theorem flast_good (F : Nat) (p : Option Addr) (cap : Nat) (ss : List ByteArray) (l : ByteArray) (w : World) (hr : Row w p ss) (hl : ss.getLast? = some l) (hs : Pl.isSumB l = true) :
    Calls Tryz.prog 78 #[.pointer (some ⟨F, 0, none⟩), .slice p ss.length cap] w fun e w' => e = .returned (.string l) ∧ w' = w := by
  obtain ⟨b, o, rfl, hc, hz, hpos⟩ := last_cell hr hl
  have hlen : ss.length ≤ 9223372036854775807 := hr.len
  have his := rissum_any l w hz
  rw [hs] at his
  have hne : ((ss.length : Int) == 0) = false := beq_eq_false_iff_ne.2 (by omega)
  have e1 : ((ss.length : Int) - 1).toNat = ss.length - 1 := by omega
  clear hr hl hs
  go_enter Tryz.func78, Tryz.ntmps78
  go_wp2_with fail
  refine his.mono ?_
  rintro e w1 ⟨rfl, rfl⟩
  go_wp2_with fail
  go_ret
  exact ⟨rfl, rfl⟩

set_option maxRecDepth 100000 in
set_option maxHeartbeats 400000 in
theorem flast_bad (B F : Nat) (ts : List ByteArray) (p : Option Addr) (cap : Nat) (ss : List ByteArray) (l : ByteArray) (w : World) (h : FoldAt w B F ts true) (hr : Row w p ss) (hl : ss.getLast? = some l) (hs : Pl.isSumB l = false) :
    Calls Tryz.prog 78 #[.pointer (some ⟨F, 0, none⟩), .slice p ss.length cap] w fun e w' => e = .returned (.string l) ∧ FoldAt w' B F ts false ∧ Below B w w' := by
  obtain ⟨b, o, rfl, hc, hz, hpos⟩ := last_cell hr hl
  obtain ⟨c1, f1⟩ := h.cells
  have HF : Hid (FoldAt w B F ts true) := h
  have hlen : ss.length ≤ 9223372036854775807 := hr.len
  have his := rissum_any l w hz
  rw [hs] at his
  have hne : ((ss.length : Int) == 0) = false := beq_eq_false_iff_ne.2 (by omega)
  have e1 : ((ss.length : Int) - 1).toNat = ss.length - 1 := by omega
  clear hr hl hs h
  go_enter Tryz.func78, Tryz.ntmps78
  go_wp2_with fail
  refine his.mono ?_
  rintro e w1 ⟨rfl, rfl⟩
  go_wp2_with fail
  go_ret
  exact ⟨rfl, HF.out.setOK false, (Below.refl B w1).setCell HF.out.le _⟩

/-- How a fold ends. -/
def FoldEnd (B F : Nat) (ts : List ByteArray) (n : Nat) (x : Option (List ByteArray × ByteArray)) (e : Ending) (w w' : World) : Prop :=
  Below B w w' ∧ ((∃ t r, x = some (t, r) ∧ e = .returned (.string r) ∧ FoldAt w' B F (ts ++ t) true) ∨
    (x = none ∧ ∃ r ts', e = .returned (.string r) ∧ ts'.length ≤ ts.length + n ∧ FoldAt w' B F ts' false))

theorem leafF_facts : ∀ (f : Nat) (leaf : ByteArray) (i n : Nat) (p t : List ByteArray) (r : ByteArray), 1 ≤ n → Pl.leafF f leaf i n p = some (t, r) → r.size = 4 ∧ t.length ≤ n := by
  intro f
  induction f with
  | zero => intro leaf i n p t r _ h; simp [Pl.leafF] at h
  | succ f ih =>
    intro leaf i n p t r hn h
    unfold Pl.leafF at h
    split at h
    · split at h
      · simp only [Option.some.injEq, Prod.mk.injEq] at h
        obtain ⟨rfl, rfl⟩ := h
        exact ⟨rfl, by simpa using hn⟩
      · cases h
    · rename_i hn1
      have hp := Pl.half_pos n
      have hl := Pl.half_lt n (by omega)
      split at h
      · cases h
      · split at h
        · cases h
        · split at h
          · split at h
            · cases h
            · rename_i t' r' he
              simp only [Option.some.injEq, Prod.mk.injEq] at h
              obtain ⟨rfl, rfl⟩ := h
              have := ih leaf i (Pl.half n) _ t' r' hp he
              exact ⟨rfl, by rw [List.length_append, List.length_singleton]; omega⟩
          · split at h
            · cases h
            · rename_i t' r' he
              simp only [Option.some.injEq, Prod.mk.injEq] at h
              obtain ⟨rfl, rfl⟩ := h
              have := ih leaf _ (n - Pl.half n) _ t' r' (by omega) he
              exact ⟨rfl, by rw [List.length_append, List.length_singleton]; omega⟩
theorem leafT_facts {leaf : ByteArray} {i n : Nat} {p t : List ByteArray} {r : ByteArray} (hn : 1 ≤ n) (h : Pl.leafT leaf i n p = some (t, r)) : r.size = 4 ∧ t.length ≤ n := leafF_facts n leaf i n p t r hn h

theorem textL_size (s : ByteArray) : (Pl.textL s).size = s.size + 1 := by
  unfold Pl.textL
  rw [ByteArray.size_append]
  show 1 + s.size = _
  omega
theorem textN_size (a b : ByteArray) : (Pl.textN a b).size = a.size + b.size + 1 := by
  unfold Pl.textN
  rw [ByteArray.size_append, ByteArray.size_append]
  show 1 + a.size + b.size = _
  omega

set_option maxRecDepth 100000 in
set_option maxHeartbeats 1000000 in
theorem fleaf_one (B F : Nat) (ts : List ByteArray) (p : Option Addr) (cap : Nat) (path : List ByteArray) (leaf : ByteArray) (i : Nat) (w : World) (h : FoldAt w B F ts true) (hB : B ≤ w.heap.size) (hs : leaf.size ≤ 30) (hl : ts.length < 3500) (hpl : path.length ≤ 9223372036854775807) :
    Calls Tryz.prog 72 #[.pointer (some ⟨F, 0, none⟩), .string leaf, .int .i64 i, .int .i64 1, .slice p path.length cap] w fun e w' => FoldEnd B F ts 1 (Pl.leafT leaf i 1 path) e w w' := by
  have HF : Hid (FoldAt w B F ts true) := h
  obtain ⟨c1, f1⟩ := h.cells
  have hz : (Pl.textL leaf).size ≤ 64 := by rw [textL_size]; omega
  have HT : Hid (Pl.textL leaf = ⟨#[76]⟩ ++ leaf) := rfl
  by_cases hp : path = []
  · subst hp
    have HX : Hid (Pl.leafT leaf i 1 [] = some ([Pl.textL leaf], Pl.sumB (Pl.textL leaf))) := by show _ = _; rw [Pl.leafT_one, if_pos rfl]
    clear h
    go_enter Tryz.func72, Tryz.ntmps72
    go_wp2_with fail
    rw [← HT.out]
    refine (fsum_any B F ts true _ _ HF.out hB hz (by omega)).mono ?_
    rintro e w1 ⟨rfl, h1, hb1⟩
    have HF1 : Hid (FoldAt w1 B F (ts ++ [Pl.textL leaf]) true) := h1
    clear h1
    go_wp2_with fail
    go_ret
    exact ⟨hb1, Or.inl ⟨_, _, HX.out, rfl, HF1.out⟩⟩
  · have HX : Hid (Pl.leafT leaf i 1 path = none) := by show _ = _; rw [Pl.leafT_one, if_neg hp]
    have hpos : 0 < path.length := List.length_pos_iff.2 hp
    clear h hp
    go_enter Tryz.func72, Tryz.ntmps72
    go_wp2_with fail
    rw [← HT.out]
    refine (fsum_any B F ts false _ _ (HF.out.setOK false) (by simpa [World.setCell] using hB) hz (by omega)).mono ?_
    rintro e w1 ⟨rfl, h1, hb1⟩
    have HF1 : Hid (FoldAt w1 B F (ts ++ [Pl.textL leaf]) false) := h1
    clear h1
    go_wp2_with fail
    go_ret
    exact ⟨((Below.refl B w).setCell HF.out.le _).trans hb1, Or.inr ⟨HX.out, _, _, rfl, by simp, HF1.out⟩⟩

end Go.Proofs.YtkhnjipjbhcgdaaGreat

namespace Go.Proofs.YtkhnjipjbhcgdaaGreat
open Go.RowKit

theorem textN_def (a b : ByteArray) : Pl.textN a b = ⟨#[78]⟩ ++ a ++ b := rfl

set_option maxRecDepth 100000 in
set_option maxHeartbeats 1000000 in
theorem fleaf_nolast (B F : Nat) (ts : List ByteArray) (p : Option Addr) (cap : Nat) (leaf : ByteArray) (i n : Nat) (w : World) (h : FoldAt w B F ts true) (h2 : 2 ≤ n) (h40 : n ≤ 40) :
    Calls Tryz.prog 72 #[.pointer (some ⟨F, 0, none⟩), .string leaf, .int .i64 i, .int .i64 n, .slice p 0 cap] w fun e w' => FoldEnd B F ts n (Pl.leafT leaf i n []) e w w' := by
  have HX : Hid (Pl.leafT leaf i n [] = none) := by show _ = _; rw [Pl.leafT_more _ _ _ _ h2]; rfl
  have hne : ((n : Int) == 1) = false := beq_eq_false_iff_ne.2 (by omega)
  have hL := flast_none B F ts p cap w h
  clear h
  go_enter Tryz.func72, Tryz.ntmps72
  go_wp2_with fail
  refine hL.mono ?_
  rintro e w1 ⟨rfl, h1, hb1⟩
  obtain ⟨c1, _⟩ := h1.cells
  have HF1 : Hid (FoldAt w1 B F ts false) := h1
  clear h1
  go_wp2_with fail
  go_ret
  exact ⟨hb1, Or.inr ⟨HX.out, _, _, rfl, by omega, HF1.out⟩⟩

set_option maxRecDepth 100000 in
set_option maxHeartbeats 1000000 in
theorem fleaf_badlast (B F : Nat) (ts : List ByteArray) (p : Option Addr) (cap : Nat) (path : List ByteArray) (l leaf : ByteArray) (i n : Nat) (w : World) (h : FoldAt w B F ts true) (h2 : 2 ≤ n) (h40 : n ≤ 40) (hr : Row w p path) (hl : path.getLast? = some l) (hs : Pl.isSumB l = false) :
    Calls Tryz.prog 72 #[.pointer (some ⟨F, 0, none⟩), .string leaf, .int .i64 i, .int .i64 n, .slice p path.length cap] w fun e w' => FoldEnd B F ts n (Pl.leafT leaf i n path) e w w' := by
  have HX : Hid (Pl.leafT leaf i n path = none) := by show _ = _; rw [Pl.leafT_more _ _ _ _ h2, hl]; simp only [hs, if_true]
  have hne : ((n : Int) == 1) = false := beq_eq_false_iff_ne.2 (by omega)
  have hL := flast_bad B F ts p cap path l w h hr hl hs
  have hlen : path.length ≤ 9223372036854775807 := hr.len
  clear h hr hl hs
  go_enter Tryz.func72, Tryz.ntmps72
  go_wp2_with fail
  refine hL.mono ?_
  rintro e w1 ⟨rfl, h1, hb1⟩
  obtain ⟨c1, _⟩ := h1.cells
  have HF1 : Hid (FoldAt w1 B F ts false) := h1
  clear h1
  go_wp2_with fail
  go_ret
  exact ⟨hb1, Or.inr ⟨HX.out, _, _, rfl, by omega, HF1.out⟩⟩

set_option maxRecDepth 100000 in
set_option maxHeartbeats 2000000 in
theorem fleaf_left (B F : Nat) (ts : List ByteArray) (p : Option Addr) (cap : Nat) (path : List ByteArray) (l leaf : ByteArray) (i n : Nat) (w : World) (h : FoldAt w B F ts true) (hB : B ≤ w.heap.size) (h2 : 2 ≤ n) (h40 : n ≤ 40) (hi : i < Pl.half n) (hpc : path.length ≤ cap) (hcm : cap ≤ 9223372036854775807) (hts : ts.length + n ≤ 3000) (hr : Row w p path) (hl : path.getLast? = some l) (hs : Pl.isSumB l = true)
    (ih : Calls Tryz.prog 72 #[.pointer (some ⟨F, 0, none⟩), .string leaf, .int .i64 i, .int .i64 (Pl.half n : Nat), .slice p (path.length - 1) cap] w fun e w' => FoldEnd B F ts (Pl.half n) (Pl.leafT leaf i (Pl.half n) path.dropLast) e w w') :
    Calls Tryz.prog 72 #[.pointer (some ⟨F, 0, none⟩), .string leaf, .int .i64 i, .int .i64 n, .slice p path.length cap] w fun e w' => FoldEnd B F ts n (Pl.leafT leaf i n path) e w w' := by
  have hp := Pl.half_pos n
  have hlt := Pl.half_lt n h2
  have HX : Hid (Pl.leafT leaf i n path = match Pl.leafT leaf i (Pl.half n) path.dropLast with
          | none => none
          | some (t, r) => some (t ++ [Pl.textN r l], Pl.sumB (Pl.textN r l))) := by
    show _ = _
    rw [Pl.leafT_more _ _ _ _ h2, hl]
    simp only [hs, Bool.true_eq_false, if_false, if_pos hi]
    cases Pl.leafT leaf i (Pl.half n) path.dropLast <;> rfl
  have hne : ((n : Int) == 1) = false := beq_eq_false_iff_ne.2 (by omega)
  have hL := flast_good F p cap path l w hr hl hs
  obtain ⟨b, o, rfl, _, _, hpos⟩ := last_cell hr hl
  obtain ⟨c1, _⟩ := h.cells
  have hbl := fun w => below_any n w h2 (by omega)
  have hl4 := isSumB_size hs
  have hl4' : l.size ≤ 4 := by omega
  have e1 : ((path.length : Int) - 1).toNat = path.length - 1 := by omega
  have HI : Hid _ := fun (_ : True) => ih
  have HF : Hid (FoldAt w B F ts true) := h
  have HBL : Hid _ := hbl
  have HT : Hid (∀ a, Pl.textN a l = ⟨#[78]⟩ ++ a ++ l) := fun _ => rfl
  cases hx : Pl.leafT leaf i (Pl.half n) path.dropLast with
  | none =>
    rw [hx] at HX HI
    clear hx hbl ih h hr hl hs hl4
    generalize Pl.half n = k at *
    go_enter Tryz.func72, Tryz.ntmps72
    go_wp2_with fail
    refine hL.mono ?_
    rintro e w1 ⟨rfl, rfl⟩
    go_wp2_with fail
    refine (HBL.out _).mono ?_
    rintro e w1 ⟨rfl, rfl⟩
    go_wp2_with fail
    refine (HI.out trivial).mono ?_
    rintro e w2 ⟨hb2, hend⟩
    rcases hend with ⟨t, r, he, _⟩ | ⟨_, r, ts', rfl, hlen2, h3⟩
    · cases he
    obtain ⟨c3, _⟩ := h3.cells
    have HF3 : Hid (FoldAt w2 B F ts' false) := h3
    clear h3
    go_wp2_with fail
    go_ret
    exact ⟨hb2, Or.inr ⟨HX.out, _, _, rfl, by omega, HF3.out⟩⟩
  | some x =>
    obtain ⟨t, r⟩ := x
    have hfacts := leafT_facts hp hx
    rw [hx] at HX HI
    have hr4 : r.size ≤ 4 := by omega
    have ht := hfacts.2
    have hz : (Pl.textN r l).size ≤ 64 := by rw [textN_size]; omega
    clear hx hbl ih h hr hl hs hl4 hfacts
    generalize Pl.half n = k at *
    go_enter Tryz.func72, Tryz.ntmps72
    go_wp2_with fail
    refine hL.mono ?_
    rintro e w1 ⟨rfl, rfl⟩
    go_wp2_with fail
    refine (HBL.out _).mono ?_
    rintro e w1 ⟨rfl, rfl⟩
    go_wp2_with fail
    refine (HI.out trivial).mono ?_
    rintro e w2 ⟨hb2, hend⟩
    rcases hend with ⟨t', r', he, rfl, h3⟩ | ⟨he, _⟩
    · simp only [Option.some.injEq, Prod.mk.injEq] at he
      obtain ⟨rfl, rfl⟩ := he
      obtain ⟨c3, _⟩ := h3.cells
      have HF3 : Hid (FoldAt w2 B F (ts ++ t) true) := h3
      have hs2 := hb2.size
      clear h3
      go_wp2_with fail
      rw [← HT.out]
      refine (fsum_any B F (ts ++ t) true _ _ HF3.out (by omega) hz (by rw [List.length_append]; omega)).mono ?_
      rintro e w4 ⟨rfl, h4, hb4⟩
      have HF4 : Hid (FoldAt w4 B F (ts ++ t ++ [Pl.textN r l]) true) := h4
      clear h4
      go_wp2_with fail
      go_ret
      exact ⟨hb2.trans hb4, Or.inl ⟨_, _, HX.out, rfl, by rw [← List.append_assoc]; exact HF4.out⟩⟩
    · cases he

set_option maxRecDepth 100000 in
set_option maxHeartbeats 2000000 in
theorem fleaf_right (B F : Nat) (ts : List ByteArray) (p : Option Addr) (cap : Nat) (path : List ByteArray) (l leaf : ByteArray) (i n : Nat) (w : World) (h : FoldAt w B F ts true) (hB : B ≤ w.heap.size) (h2 : 2 ≤ n) (h40 : n ≤ 40) (hi : ¬ i < Pl.half n) (hin : i < n) (hpc : path.length ≤ cap) (hcm : cap ≤ 9223372036854775807) (hts : ts.length + n ≤ 3000) (hr : Row w p path) (hl : path.getLast? = some l) (hs : Pl.isSumB l = true)
    (ih : Calls Tryz.prog 72 #[.pointer (some ⟨F, 0, none⟩), .string leaf, .int .i64 ((i : Int) - (Pl.half n : Int)), .int .i64 ((n : Int) - (Pl.half n : Int)), .slice p (path.length - 1) cap] w fun e w' => FoldEnd B F ts (n - Pl.half n) (Pl.leafT leaf (i - Pl.half n) (n - Pl.half n) path.dropLast) e w w') :
    Calls Tryz.prog 72 #[.pointer (some ⟨F, 0, none⟩), .string leaf, .int .i64 i, .int .i64 n, .slice p path.length cap] w fun e w' => FoldEnd B F ts n (Pl.leafT leaf i n path) e w w' := by
  have hp := Pl.half_pos n
  have hlt := Pl.half_lt n h2
  have HX : Hid (Pl.leafT leaf i n path = match Pl.leafT leaf (i - Pl.half n) (n - Pl.half n) path.dropLast with
          | none => none
          | some (t, r) => some (t ++ [Pl.textN l r], Pl.sumB (Pl.textN l r))) := by
    show _ = _
    rw [Pl.leafT_more _ _ _ _ h2, hl]
    simp only [hs, Bool.true_eq_false, if_false, if_neg hi]
    cases Pl.leafT leaf (i - Pl.half n) (n - Pl.half n) path.dropLast <;> rfl
  have hne : ((n : Int) == 1) = false := beq_eq_false_iff_ne.2 (by omega)
  have hL := flast_good F p cap path l w hr hl hs
  obtain ⟨b, o, rfl, _, _, hpos⟩ := last_cell hr hl
  obtain ⟨c1, _⟩ := h.cells
  have hbl := fun w => below_any n w h2 (by omega)
  have hl4 := isSumB_size hs
  have hl4' : l.size ≤ 4 := by omega
  have e1 : ((path.length : Int) - 1).toNat = path.length - 1 := by omega
  have HI : Hid _ := fun (_ : True) => ih
  have HF : Hid (FoldAt w B F ts true) := h
  have HBL : Hid _ := hbl
  have HT : Hid (∀ a, Pl.textN l a = ⟨#[78]⟩ ++ l ++ a) := fun _ => rfl
  cases hx : Pl.leafT leaf (i - Pl.half n) (n - Pl.half n) path.dropLast with
  | none =>
    rw [hx] at HX HI
    clear hx hbl ih h hr hl hs hl4
    generalize Pl.half n = k at *
    go_enter Tryz.func72, Tryz.ntmps72
    go_wp2_with fail
    refine hL.mono ?_
    rintro e w1 ⟨rfl, rfl⟩
    go_wp2_with fail
    refine (HBL.out _).mono ?_
    rintro e w1 ⟨rfl, rfl⟩
    go_wp2_with fail
    refine (HI.out trivial).mono ?_
    rintro e w2 ⟨hb2, hend⟩
    rcases hend with ⟨t, r, he, _⟩ | ⟨_, r, ts', rfl, hlen2, h3⟩
    · cases he
    obtain ⟨c3, _⟩ := h3.cells
    have HF3 : Hid (FoldAt w2 B F ts' false) := h3
    clear h3
    go_wp2_with fail
    go_ret
    exact ⟨hb2, Or.inr ⟨HX.out, _, _, rfl, by omega, HF3.out⟩⟩
  | some x =>
    obtain ⟨t, r⟩ := x
    have hfacts := leafT_facts (by omega) hx
    rw [hx] at HX HI
    have hr4 : r.size ≤ 4 := by omega
    have ht := hfacts.2
    have hz : (Pl.textN l r).size ≤ 64 := by rw [textN_size]; omega
    clear hx hbl ih h hr hl hs hl4 hfacts
    generalize Pl.half n = k at *
    go_enter Tryz.func72, Tryz.ntmps72
    go_wp2_with fail
    refine hL.mono ?_
    rintro e w1 ⟨rfl, rfl⟩
    go_wp2_with fail
    refine (HBL.out _).mono ?_
    rintro e w1 ⟨rfl, rfl⟩
    go_wp2_with fail
    refine (HI.out trivial).mono ?_
    rintro e w2 ⟨hb2, hend⟩
    rcases hend with ⟨t', r', he, rfl, h3⟩ | ⟨he, _⟩
    · simp only [Option.some.injEq, Prod.mk.injEq] at he
      obtain ⟨rfl, rfl⟩ := he
      obtain ⟨c3, _⟩ := h3.cells
      have HF3 : Hid (FoldAt w2 B F (ts ++ t) true) := h3
      have hs2 := hb2.size
      clear h3
      go_wp2_with fail
      rw [← HT.out]
      refine (fsum_any B F (ts ++ t) true _ _ HF3.out (by omega) hz (by rw [List.length_append]; omega)).mono ?_
      rintro e w4 ⟨rfl, h4, hb4⟩
      have HF4 : Hid (FoldAt w4 B F (ts ++ t ++ [Pl.textN l r]) true) := h4
      clear h4
      go_wp2_with fail
      go_ret
      exact ⟨hb2.trans hb4, Or.inl ⟨_, _, HX.out, rfl, by rw [← List.append_assoc]; exact HF4.out⟩⟩
    · cases he

theorem fleaf_any : ∀ (f B F : Nat) (w0 : World) (p : Option Addr) (cap : Nat) (path : List ByteArray) (leaf : ByteArray) (i n : Nat) (ts : List ByteArray) (w : World),
    n ≤ f → 1 ≤ n → n ≤ 40 → i < n → leaf.size ≤ 30 → ts.length + n ≤ 3000 → path.length ≤ cap → cap ≤ 9223372036854775807 → w0.heap.size ≤ B → Row w0 p path → Below B w0 w → B ≤ w.heap.size → FoldAt w B F ts true →
    Calls Tryz.prog 72 #[.pointer (some ⟨F, 0, none⟩), .string leaf, .int .i64 i, .int .i64 n, .slice p path.length cap] w fun e w' => FoldEnd B F ts n (Pl.leafT leaf i n path) e w w' := by
  intro f
  induction f with
  | zero => intro B F w0 p cap path leaf i n ts w h h1; omega
  | succ f ih =>
    intro B F w0 p cap path leaf i n ts w h h1 h40 hi hs hts hpc hcm h0 hr0 hb hB hF
    by_cases hn : n = 1
    · subst hn
      exact fleaf_one B F ts p cap path leaf i w hF hB hs (by omega) hr0.len
    · have hr := hr0.grow hb h0
      have hp := Pl.half_pos n
      have hlt := Pl.half_lt n (by omega)
      cases hl : path.getLast? with
      | none =>
        obtain rfl : path = [] := List.getLast?_eq_none_iff.1 hl
        exact fleaf_nolast B F ts p cap leaf i n w hF (by omega) h40
      | some l =>
        have e1 : path.dropLast.length = path.length - 1 := List.length_dropLast
        have hrd : Row w0 p path.dropLast := by rw [List.dropLast_eq_take]; exact hr0.take _
        cases hsl : Pl.isSumB l with
        | false => exact fleaf_badlast B F ts p cap path l leaf i n w hF (by omega) h40 hr hl hsl
        | true =>
          by_cases hlf : i < Pl.half n
          · refine fleaf_left B F ts p cap path l leaf i n w hF hB (by omega) h40 hlf hpc hcm hts hr hl hsl ?_
            have := ih B F w0 p cap path.dropLast leaf i (Pl.half n) ts w (by omega) hp (by omega) hlf hs (by omega) (by omega) hcm h0 hrd hb hB hF
            rwa [e1] at this
          · refine fleaf_right B F ts p cap path l leaf i n w hF hB (by omega) h40 hlf hi hpc hcm hts hr hl hsl ?_
            have := ih B F w0 p cap path.dropLast leaf (i - Pl.half n) (n - Pl.half n) ts w (by omega) (by omega) (by omega) (by omega) hs (by omega) (by omega) hcm h0 hrd hb hB hF
            rwa [e1, show ((i - Pl.half n : Nat) : Int) = (i : Int) - (Pl.half n : Int) by omega, show ((n - Pl.half n : Nat) : Int) = (n : Int) - (Pl.half n : Int) by omega] at this

end Go.Proofs.YtkhnjipjbhcgdaaGreat
