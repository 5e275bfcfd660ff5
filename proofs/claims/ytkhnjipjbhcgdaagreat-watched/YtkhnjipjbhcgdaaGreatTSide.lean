import Derived.Test.YtkhnjipjbhcgdaaGreatHand
import Derived.Test.YtkhnjipjbhcgdaaGreatPath
/-
  THE WALKS of tree.halve, leafSides, growthSides, slices.Index and slices.Contains of sides.
-/
namespace Go.Proofs.YtkhnjipjbhcgdaaGreat
open Go.RowKit

/-- A side, as a value. -/
def sideV (b : Bool) : Value := .int .i64 (if b = true then 1 else 0)
/-- A row of the call's own: the sides S behind the value v. -/
def OwnS (w : World) (B : Nat) (v : Value) (S : List Bool) : Prop := w.ownsRow B 123 1 v S.length (S.map sideV)
theorem infoSide : (Tryz.prog.info? 123).map (fun i => (i.zero, i.size, i.bytes)) = some (some (.int .i64 0), 1, 8) := by kernel_rfl
theorem OwnS.grow {w w' : World} {B : Nat} {v : Value} {S : List Bool} (h : OwnS w B v S) (hb : Below w.heap.size w w') : OwnS w' B v S := by
  refine ⟨h.1, ?_⟩
  rcases h.2 with hn | ⟨g, cap, cur, rfl, hB, hg, rest⟩
  · exact Or.inl hn
  · refine Or.inr ⟨g, cap, cur, rfl, hB, ?_, rest⟩
    rw [hb.block g (Array.getElem?_eq_some_iff.1 hg).1]
    exact hg
theorem owns_nil (w : World) (B : Nat) : OwnS w B (.slice none 0 0) [] := World.ownsRow_nil _ _ _ _
theorem owns_step {w wr w' : World} {B : Nat} {v v' : Value} {S : List Bool} {s : Bool} (hb : Below B w wr) (hB : B ≤ wr.heap.size) (h : OwnS wr B v S)
    (o : Obj) (h2 : w'.ownsRow B 123 1 v' (S.length + 1) (S.map sideV ++ [sideV s])) (hg : (wr.alloc o).grownBy w' v.ownBlock) : OwnS w' B v' (S ++ [s]) ∧ Below B w w' := by
  refine ⟨?_, ?_⟩
  · unfold OwnS
    rw [List.length_append, List.map_append]
    exact h2
  · exact (hb.alloc hB o).grown hg (by simp; omega) (fun k hk => (World.ownsRow.lt h k hk).1)
theorem one_int {x : Int} : ∀ u ∈ [Value.int .i64 x], u.oneCell' = true := by intro u hu; simp at hu; subst hu; rfl
/-- Sides that lie behind a slice's address: nothing is asked of it where there are none. -/
def SRow (w : World) (q : Option Addr) (S : List Bool) : Prop := S = [] ∨ ∃ g, q = some ⟨g, 0, none⟩ ∧ g < w.heap.size ∧ ∀ i (h : i < S.length), w.cell? ⟨g, i, none⟩ = some (sideV S[i])
theorem OwnS.open {w : World} {B : Nat} {v : Value} {S : List Bool} (h : OwnS w B v S) : ∃ q cap, v = .slice q S.length cap ∧ S.length ≤ cap ∧ cap ≤ maxLen ∧ SRow w q S ∧ (∀ g, q = some ⟨g, 0, none⟩ → B ≤ g) := by
  have hlt := World.ownsRow.lt h
  rcases h.2 with ⟨rfl, h0⟩ | ⟨g, cap, cur, rfl, hb, hg, hc, hm, hz, ht⟩
  · have : S = [] := List.eq_nil_of_length_eq_zero h0
    subst this
    exact ⟨none, 0, rfl, Nat.le_refl _, by decide, Or.inl rfl, fun g hg => by cases hg⟩
  · refine ⟨some ⟨g, 0, none⟩, cap, rfl, hc, hm, Or.inr ⟨g, rfl, (hlt g rfl).2, fun i hi => ?_⟩, fun g' hg' => ?_⟩
    · have := World.ownsRow.cells h (g := g) rfl i (sideV S[i]) (by simp [hi])
      rwa [add_plain, Nat.zero_add] at this
    · simp only [Option.some.injEq, Addr.mk.injEq, and_true] at hg'
      rw [← hg']
      exact hb

set_option maxRecDepth 100000 in
set_option maxHeartbeats 400000 in
theorem thalve_left (i n : Nat) (w : World) (h2 : 2 ≤ n) (h40 : n ≤ 40) (hi : i < Pl.half n) :
    Calls Tryz.prog 102 #[.int .i64 i, .int .i64 n] w fun e w' => e = .returned (.tuple #[sideV false, .int .i64 i, .int .i64 (Pl.half n : Nat)]) ∧ w' = w := by
  have HS : Hid _ := fun w => split_any n w h2 (by omega)
  have hl := Pl.half_lt n h2
  generalize Pl.half n = k at *
  go_enter Tryz.func102, Tryz.ntmps102
  go_wp2_with fail
  refine (HS.out _).mono ?_
  rintro e w1 ⟨rfl, rfl⟩
  go_wp2_with fail
  refine bodyPost_ret (v := .tuple #[sideV false, .int .i64 i, .int .i64 (k : Nat)]) (by simp [results, Tryz.results102, go_sem, sideV]) rfl ⟨rfl, rfl⟩

set_option maxRecDepth 100000 in
set_option maxHeartbeats 400000 in
theorem thalve_right (i n : Nat) (w : World) (h2 : 2 ≤ n) (h40 : n ≤ 40) (hi : ¬ i < Pl.half n) (hin : i < n) :
    Calls Tryz.prog 102 #[.int .i64 i, .int .i64 n] w fun e w' => e = .returned (.tuple #[sideV true, .int .i64 (i - Pl.half n : Nat), .int .i64 (n - Pl.half n : Nat)]) ∧ w' = w := by
  have HS : Hid _ := fun w => split_any n w h2 (by omega)
  have hl := Pl.half_lt n h2
  generalize Pl.half n = k at *
  have e1 : ((i - k : Nat) : Int) = (i : Int) - (k : Int) := by omega
  have e2 : ((n - k : Nat) : Int) = (n : Int) - (k : Int) := by omega
  rw [e1, e2]
  go_enter Tryz.func102, Tryz.ntmps102
  go_wp2_with fail
  refine (HS.out _).mono ?_
  rintro e w1 ⟨rfl, rfl⟩
  go_wp2_with fail
  refine bodyPost_ret (v := .tuple #[sideV true, .int .i64 ((i : Int) - (k : Int)), .int .i64 ((n : Int) - (k : Int))]) (by simp [results, Tryz.results102, go_sem, sideV]) rfl ⟨rfl, rfl⟩


set_option maxRecDepth 100000 in
set_option maxHeartbeats 400000 in
theorem tlsides_one (i : Nat) (w : World) :
    Calls Tryz.prog 92 #[.int .i64 i, .int .i64 1] w fun e w' => ∃ v, e = .returned v ∧ OwnS w' w.heap.size v [] ∧ Below w.heap.size w w' := by
  go_enter Tryz.func92, Tryz.ntmps92
  go_wp2_with fail
  go_ret
  exact ⟨_, rfl, owns_nil _ _, Below.refl _ _⟩

set_option maxRecDepth 100000 in
set_option maxHeartbeats 1000000 in
theorem tlsides_step (i n i' n' : Nat) (s : Bool) (S : List Bool) (w : World) (h2 : 2 ≤ n) (hS : S.length ≤ 40)
    (HH : Hid (∀ w, Calls Tryz.prog 102 #[.int .i64 i, .int .i64 n] w fun e w' => e = .returned (.tuple #[sideV s, .int .i64 i', .int .i64 n']) ∧ w' = w))
    (HA : Hid (∀ w, Calls Tryz.prog 92 #[.int .i64 i', .int .i64 n'] w fun e w' => ∃ v, e = .returned v ∧ OwnS w' w.heap.size v S ∧ Below w.heap.size w w')) :
    Calls Tryz.prog 92 #[.int .i64 i, .int .i64 n] w fun e w' => ∃ v, e = .returned v ∧ OwnS w' w.heap.size v (S ++ [s]) ∧ Below w.heap.size w w' := by
  obtain ⟨i0, hinf, hz0, hz1, hz2⟩ := info_parts infoSide
  obtain ⟨x, hx⟩ : ∃ x : Int, sideV s = .int .i64 x := ⟨_, rfl⟩
  have HX : Hid _ := hx
  rw [hx] at HH
  clear hx
  have hne : ((n : Int) == 1) = false := beq_eq_false_iff_ne.2 (by omega)
  go_enter Tryz.func92, Tryz.ntmps92
  go_wp2_with fail
  refine (HH.out _).mono ?_
  rintro e w1 ⟨rfl, rfl⟩
  go_wp2_with fail
  refine (HA.out _).mono ?_
  rintro e w2 ⟨v2, rfl, ho2, hb2⟩
  have hs2 := hb2.size
  go_wp2_with (at_builtin; refine wpList_append_own _ rfl _ _ 118 rfl w1.heap.size 123 i0 (.int .i64 0) 1 8 Tryz.underlying118 hinf hz0 hz1 hz2 rfl (by decide) _ _ _ rfl (ho2.alloc _) ⟨w2.heap.size, 0, none⟩ 1 1 [.int .i64 x] rfl rfl (cell_one_new _ _ _) one_int ?c3 ?c4 ?c5 ?_)
  case c3 => unfold maxLen; omega
  case c4 => omega
  case c5 => simp; omega
  intro v' w3 hown' hgrow _
  rw [← HX.out] at hown'
  have R := owns_step hb2 hs2 ho2 _ hown' hgrow
  clear hown' hgrow
  go_wp2_with fail
  go_ret
  exact ⟨_, rfl, R.1, R.2⟩

theorem tlsides_any : ∀ (n i : Nat) (w : World), 1 ≤ n → n ≤ 40 → i < n →
    Calls Tryz.prog 92 #[.int .i64 i, .int .i64 n] w fun e w' => ∃ v, e = .returned v ∧ OwnS w' w.heap.size v (Pl.lsides i n) ∧ Below w.heap.size w w' := by
  intro n
  induction n using Nat.strongRecOn with
  | ind n ih =>
    intro i w h1 h40 hi
    by_cases hn : n = 1
    · subst hn
      rw [Pl.lsides_one]
      exact tlsides_one i w
    · have hp := Pl.half_pos n
      have hl := Pl.half_lt n (by omega)
      rw [Pl.lsides_more i n (by omega)]
      by_cases hh : i < Pl.half n
      · rw [if_pos hh]
        have := Pl.lsides_length (Pl.half n) i
        exact tlsides_step i n i (Pl.half n) false _ w (by omega) (by omega) (fun w => thalve_left i n w (by omega) h40 hh) (fun w => ih (Pl.half n) hl i w hp (by omega) hh)
      · rw [if_neg hh]
        have := Pl.lsides_length (n - Pl.half n) (i - Pl.half n)
        exact tlsides_step i n (i - Pl.half n) (n - Pl.half n) true _ w (by omega) (by omega) (fun w => thalve_right i n w (by omega) h40 hh hi) (fun w => ih (n - Pl.half n) (by omega) (i - Pl.half n) w (by omega) (by omega) (by omega))

set_option maxRecDepth 100000 in
set_option maxHeartbeats 400000 in
theorem tgsides_one (n : Nat) (w : World) (h1 : 1 ≤ n) (h40 : n ≤ 40) :
    Calls Tryz.prog 96 #[.int .i64 ((n : Int) - 1), .int .i64 n] w fun e w' => ∃ v, e = .returned v ∧ OwnS w' w.heap.size v [] ∧ Below w.heap.size w w' := by
  have hb : (((n : Int) - 1) == ((n : Int) - 1)) = true := beq_self_eq_true _
  go_enter Tryz.func96, Tryz.ntmps96
  go_wp2_with fail
  go_ret
  exact ⟨_, rfl, owns_nil _ _, Below.refl _ _⟩

set_option maxRecDepth 100000 in
set_option maxHeartbeats 1000000 in
theorem tgsides_step (i n i' n' : Nat) (s : Bool) (S : List Bool) (w : World) (h2 : i + 1 < n) (h40 : n ≤ 40) (hS : S.length ≤ 40)
    (HH : Hid (∀ w, Calls Tryz.prog 102 #[.int .i64 i, .int .i64 n] w fun e w' => e = .returned (.tuple #[sideV s, .int .i64 i', .int .i64 n']) ∧ w' = w))
    (HA : Hid (∀ w, Calls Tryz.prog 96 #[.int .i64 i', .int .i64 n'] w fun e w' => ∃ v, e = .returned v ∧ OwnS w' w.heap.size v S ∧ Below w.heap.size w w')) :
    Calls Tryz.prog 96 #[.int .i64 i, .int .i64 n] w fun e w' => ∃ v, e = .returned v ∧ OwnS w' w.heap.size v (S ++ [s]) ∧ Below w.heap.size w w' := by
  obtain ⟨i0, hinf, hz0, hz1, hz2⟩ := info_parts infoSide
  obtain ⟨x, hx⟩ : ∃ x : Int, sideV s = .int .i64 x := ⟨_, rfl⟩
  have HX : Hid _ := hx
  rw [hx] at HH
  clear hx
  have hne : ((i : Int) == (n : Int) - 1) = false := beq_eq_false_iff_ne.2 (by omega)
  go_enter Tryz.func96, Tryz.ntmps96
  go_wp2_with fail
  refine (HH.out _).mono ?_
  rintro e w1 ⟨rfl, rfl⟩
  go_wp2_with fail
  refine (HA.out _).mono ?_
  rintro e w2 ⟨v2, rfl, ho2, hb2⟩
  have hs2 := hb2.size
  go_wp2_with (at_builtin; refine wpList_append_own _ rfl _ _ 118 rfl w1.heap.size 123 i0 (.int .i64 0) 1 8 Tryz.underlying118 hinf hz0 hz1 hz2 rfl (by decide) _ _ _ rfl (ho2.alloc _) ⟨w2.heap.size, 0, none⟩ 1 1 [.int .i64 x] rfl rfl (cell_one_new _ _ _) one_int ?c3 ?c4 ?c5 ?_)
  case c3 => unfold maxLen; omega
  case c4 => omega
  case c5 => simp; omega
  intro v' w3 hown' hgrow _
  rw [← HX.out] at hown'
  have R := owns_step hb2 hs2 ho2 _ hown' hgrow
  clear hown' hgrow
  go_wp2_with fail
  go_ret
  exact ⟨_, rfl, R.1, R.2⟩

theorem tgsides_any : ∀ (n i : Nat) (w : World), n ≤ 40 → i < n →
    Calls Tryz.prog 96 #[.int .i64 i, .int .i64 n] w fun e w' => ∃ v, e = .returned v ∧ OwnS w' w.heap.size v (Pl.gsides (i + 1) n) ∧ Below w.heap.size w w' := by
  intro n
  induction n using Nat.strongRecOn with
  | ind n ih =>
    intro i w h40 hi
    by_cases hn : i + 1 = n
    · subst hn
      rw [Pl.gsides_all]
      have := tgsides_one (i + 1) w (by omega) h40
      rwa [show ((i + 1 : Nat) : Int) - 1 = (i : Int) by omega] at this
    · have hp := Pl.half_pos n
      have hl := Pl.half_lt n (by omega)
      rw [Pl.gsides_more (i + 1) n (by omega) (by omega)]
      by_cases hh : i < Pl.half n
      · rw [if_pos (by omega)]
        have := Pl.gsides_length (Pl.half n) (i + 1) (by omega) (by omega)
        exact tgsides_step i n i (Pl.half n) false _ w (by omega) h40 (by omega) (fun w => thalve_left i n w (by omega) h40 hh) (fun w => ih (Pl.half n) hl i w (by omega) hh)
      · rw [if_neg (by omega), show i + 1 - Pl.half n = i - Pl.half n + 1 by omega]
        have := Pl.gsides_length (n - Pl.half n) (i - Pl.half n + 1) (by omega) (by omega)
        exact tgsides_step i n (i - Pl.half n) (n - Pl.half n) true _ w (by omega) h40 (by omega) (fun w => thalve_right i n w (by omega) h40 hh hi) (fun w => ih (n - Pl.half n) (by omega) (i - Pl.half n) w (by omega) (by omega))

end Go.Proofs.YtkhnjipjbhcgdaaGreat
