import Derived.Test.YtkhnjipjbhcgdaaGreatWStr
import Derived.Test.YtkhnjipjbhcgdaaGreatTWatch
/-
  THE STATE of treeheadlaw.World: the pairs of watchers, the lists that came out; what stays where something else turns.
-/
namespace Go.Proofs.YtkhnjipjbhcgdaaGreat
open Go.RowKit Hp

/-- What kind of block it is. -/
def kindO : Obj → Nat
  | .cells _ t _ => t + 1
  | _ => 0
theorem kne {w : World} {a b : Nat} {o o' : Obj} (ha : w.heap[a]? = some o) (hb : w.heap[b]? = some o') (h : Nat.beq (kindO o) (kindO o') = false) : a ≠ b := by
  rintro rfl
  rw [ha] at hb
  injection hb with hb
  subst hb
  rw [Nat.beq_refl] at h
  cases h

/-- A pair: where it lies, and what both watchers have seen. -/
structure PRec where
  pb : Nat
  F : Nat
  C : Nat
  R : Nat
  sp : Option Addr
  K : Int
  size : Nat
  root : ByteArray
  seen : Bool
  closed : Bool
/-- The blocks of a pair's that may turn. -/
def PRec.mine (r : PRec) (k : Nat) : Prop := k = r.F ∨ k = r.C ∨ k = r.R
structure PrOk (w : World) (B : Nat) (r : PRec) : Prop where
  le : B ≤ r.F ∧ B ≤ r.C ∧ B ≤ r.R
  box : Box w r.pb 50 [.pointer (some ⟨r.F, 0, none⟩), .pointer (some ⟨r.R, 0, none⟩)]
  wt : Wt w r.F r.C r.sp r.K r.size r.root r.seen r.closed
  rf : Box w r.R 67 [.int .i64 r.K, .int .i64 r.size, .string r.root, .bool r.seen, .bool r.closed]
  rs : r.root.size ≤ maxLen
theorem PrOk.turn {X : Nat → Prop} {w w' : World} {B : Nat} {r : PRec} (h : PrOk w B r) (ht : Turn X w w') (hm : ∀ k, r.mine k → ¬ X k) (hp : ¬ X r.pb) (hS : ∀ S, r.sp = some ⟨S, 0, none⟩ → ¬ X S) : PrOk w' B r :=
  ⟨h.le, h.box.turn ht hp, h.wt.turn ht (hm _ (Or.inl rfl)) (hm _ (Or.inr (Or.inl rfl))) hS, h.rf.turn ht (hm _ (Or.inr (Or.inr rfl))), h.rs⟩
theorem PrOk.grow {w w' : World} {B : Nat} {r : PRec} (h : PrOk w B r) (hb : Below w.heap.size w w') : PrOk w' B r :=
  h.turn (X := fun _ => False) (Turn.of hb) (fun _ _ h => h) (fun h => h) (fun _ _ h => h)
theorem PrOk.ge {w : World} {B : Nat} {r : PRec} (h : PrOk w B r) : ∀ k, r.mine k → B ≤ k := by
  rintro k (rfl | rfl | rfl)
  · exact h.le.1
  · exact h.le.2.1
  · exact h.le.2.2
theorem PrOk.lt {w : World} {B : Nat} {r : PRec} (h : PrOk w B r) : ∀ k, r.mine k → k < w.heap.size := by
  rintro k (rfl | rfl | rfl)
  · exact h.wt.box.lt
  · exact h.wt.chan.lt
  · exact h.rf.lt
/-- A block of this kind is none of a pair's that may turn. -/
theorem PrOk.other {w : World} {B b : Nat} {r : PRec} {o : Obj} (h : PrOk w B r) (hb : w.heap[b]? = some o) (h1 : Nat.beq (kindO o) (65 + 1) = false) (h2 : Nat.beq (kindO o) 0 = false) (h3 : Nat.beq (kindO o) (67 + 1) = false) : ¬ r.mine b := by
  rintro (e | e | e)
  · exact kne hb h.wt.box h1 e
  · exact kne hb h.wt.chan h2 e
  · exact kne hb h.rf h3 e

theorem owns_turn {X : Nat → Prop} {w w' : World} {B n : Nat} {t : TypeId} {v : Value} {xs : List Value} (h : w.ownsRow B t 1 v n xs) (hb : Turn X w w') (hX : ∀ k, some k = v.ownBlock → ¬ X k) : w'.ownsRow B t 1 v n xs := by
  refine ⟨h.1, ?_⟩
  rcases h.2 with hn | ⟨g, cap, cur, rfl, hB, hg, rest⟩
  · exact Or.inl hn
  · refine Or.inr ⟨g, cap, cur, rfl, hB, ?_, rest⟩
    rw [hb.block g (Array.getElem?_eq_some_iff.1 hg).1 (hX g rfl)]
    exact hg
theorem owns_block {w : World} {B n : Nat} {t : TypeId} {v : Value} {xs : List Value} (h : w.ownsRow B t 1 v n xs) (k : Nat) (hk : some k = v.ownBlock) : B ≤ k ∧ ∃ cur, w.heap[k]? = some (.cells cur t (0, 0)) := by
  rcases h.2 with ⟨rfl, _⟩ | ⟨g, cap, cur, rfl, hB, hg, _⟩
  · cases hk
  · simp only [Value.ownBlock, Option.some.injEq] at hk
    subst hk
    exact ⟨hB, cur, hg⟩

def updF {α : Type} (f : Nat → α) (i : Nat) (x : α) (j : Nat) : α := if j = i then x else f j
theorem updF_same {α : Type} (f : Nat → α) (i : Nat) (x : α) : updF f i x i = x := if_pos rfl
theorem updF_ne {α : Type} (f : Nat → α) {i j : Nat} (x : α) (h : j ≠ i) : updF f i x j = f j := if_neg h
theorem range_updF {α β : Type} (f : Nat → α) (g : α → β) (n : Nat) (x : α) : (List.range (n + 1)).map (fun i => g (updF f n x i)) = (List.range n).map (fun i => g (f i)) ++ [g x] := by
  rw [List.range_succ, List.map_append]
  congr 1
  · apply List.map_congr_left
    intro i hi
    rw [updF_ne f x (by have := List.mem_range.1 hi; omega)]
  · rw [List.map_singleton, updF_same]
theorem range_set {α β : Type} (f : Nat → α) (g : α → β) (n i : Nat) (x : α) (h : g x = g (f i)) : (List.range n).map (fun j => g (updF f i x j)) = (List.range n).map (fun j => g (f j)) := by
  apply List.map_congr_left
  intro j _
  by_cases hj : j = i
  · rw [hj, updF_same, h]
  · rw [updF_ne f x hj]
theorem range_get {β : Type} (f : Nat → β) (n i : Nat) (h : i < n) : ((List.range n).map f)[i]? = some (f i) := by
  rw [List.getElem?_map, List.getElem?_range h]
  rfl

def ptrOf (r : PRec) : Value := .pointer (some ⟨r.pb, 0, none⟩)
/-- The law's World, and all that hangs on it. -/
structure St (w : World) (B W0 n m1 m2 : Nat) (P : Nat → PRec) (v1 v2 v3 : Value) (L1 L3 : Nat → Value) : Prop where
  hW : B ≤ W0
  box : Box w W0 27 [v1, v2, v3]
  ps : w.ownsRow B 48 1 v1 n ((List.range n).map fun i => ptrOf (P i))
  ls : w.ownsRow B 32 1 v2 m1 ((List.range m1).map fun i => L1 i)
  l3 : w.ownsRow B 32 1 v3 m2 ((List.range m2).map fun i => L3 i)
  ne : ∀ k, some k = v2.ownBlock → some k ≠ v3.ownBlock
  pr : ∀ i, i < n → PrOk w B (P i)
  ap : ∀ i j, i < n → j < n → i ≠ j → (P i).F ≠ (P j).F ∧ (P i).C ≠ (P j).C ∧ (P i).R ≠ (P j).R
  fl : ∀ k, k < m1 → Full w (L1 k) (strokeS k)
  f3 : ∀ k, k < m2 → Full w (L3 k) (strokeS (k / 3))
theorem PrOk.head {w : World} {B : Nat} {r : PRec} (h : PrOk w B r) (S : Nat) (hS : r.sp = some ⟨S, 0, none⟩) : ∃ l : List Value, Box w S 59 l := by
  rcases h.wt.head with ⟨_, h0⟩ | ⟨_, S', h1, h2⟩
  · rw [h0] at hS; cases hS
  · rw [h1] at hS
    simp only [Option.some.injEq, Addr.mk.injEq, and_true] at hS
    subst hS
    exact ⟨_, h2⟩

theorem St.grow {w w' : World} {B W0 n m1 m2 : Nat} {P : Nat → PRec} {v1 v2 v3 : Value} {L1 L3 : Nat → Value} (h : St w B W0 n m1 m2 P v1 v2 v3 L1 L3) (hb : Below w.heap.size w w') : St w' B W0 n m1 m2 P v1 v2 v3 L1 L3 := by
  have ht : Turn (fun _ => False) w w' := Turn.of hb
  exact ⟨h.hW, h.box.turn ht (fun h => h), owns_turn h.ps ht (fun _ _ h => h), owns_turn h.ls ht (fun _ _ h => h), owns_turn h.l3 ht (fun _ _ h => h), h.ne, fun i hi => (h.pr i hi).grow hb, h.ap, fun k hk => (h.fl k hk).grow hb, fun k hk => (h.f3 k hk).grow hb⟩

/-- One pair turns. -/
theorem St.pair {w w' : World} {B W0 n m1 m2 : Nat} {P : Nat → PRec} {v1 v2 v3 : Value} {L1 L3 : Nat → Value} (h : St w B W0 n m1 m2 P v1 v2 v3 L1 L3) (i : Nat) (hi : i < n) (r : PRec)
    (ht : Turn (P i).mine w w') (hp : r.pb = (P i).pb) (hF : r.F = (P i).F) (hC : r.C = (P i).C) (hR : r.R = (P i).R) (hr : PrOk w' B r) : St w' B W0 n m1 m2 (updF P i r) v1 v2 v3 L1 L3 := by
  have ho := h.pr i hi
  refine ⟨h.hW, h.box.turn ht (ho.other h.box rfl rfl rfl), ?_, ?_, ?_, h.ne, ?_, ?_, ?_, ?_⟩
  · rw [range_set P ptrOf n i r (by unfold ptrOf; rw [hp])]
    refine owns_turn h.ps ht fun k hk => ?_
    obtain ⟨_, cur, hc⟩ := owns_block h.ps k hk
    exact ho.other hc rfl rfl rfl
  · refine owns_turn h.ls ht fun k hk => ?_
    obtain ⟨_, cur, hc⟩ := owns_block h.ls k hk
    exact ho.other hc rfl rfl rfl
  · refine owns_turn h.l3 ht fun k hk => ?_
    obtain ⟨_, cur, hc⟩ := owns_block h.l3 k hk
    exact ho.other hc rfl rfl rfl
  · intro j hj
    by_cases hji : j = i
    · rw [hji, updF_same]; exact hr
    · rw [updF_ne P r hji]
      have hoj := h.pr j hj
      obtain ⟨a1, a2, a3⟩ := h.ap j i hj hi hji
      refine hoj.turn ht ?_ (ho.other hoj.box rfl rfl rfl) ?_
      · rintro k (rfl | rfl | rfl) (hk | hk | hk)
        · exact a1 hk
        · exact kne hoj.wt.box ho.wt.chan rfl hk
        · exact kne hoj.wt.box ho.rf rfl hk
        · exact kne hoj.wt.chan ho.wt.box rfl hk
        · exact a2 hk
        · exact kne hoj.wt.chan ho.rf rfl hk
        · exact kne hoj.rf ho.wt.box rfl hk
        · exact kne hoj.rf ho.wt.chan rfl hk
        · exact a3 hk
      · intro S hS
        obtain ⟨l, hl⟩ := hoj.head S hS
        exact ho.other hl rfl rfl rfl
  · intro a b ha hb hab
    have e : ∀ j, (updF P i r j).F = (P j).F ∧ (updF P i r j).C = (P j).C ∧ (updF P i r j).R = (P j).R := by
      intro j
      by_cases hji : j = i
      · rw [hji, updF_same]; exact ⟨hF, hC, hR⟩
      · rw [updF_ne P r hji]; exact ⟨rfl, rfl, rfl⟩
    rw [(e a).1, (e a).2.1, (e a).2.2, (e b).1, (e b).2.1, (e b).2.2]
    exact h.ap a b ha hb hab
  · intro k hk
    exact (h.fl k hk).turn ht fun b cur hb => ho.other hb rfl rfl rfl
  · intro k hk
    exact (h.f3 k hk).turn ht fun b cur hb => ho.other hb rfl rfl rfl

/-- What an append to a field of the World's leaves: its own block (or a new one), and the field. -/
theorem field_turn {w w4 : World} {W0 : Nat} {v : Value} (hg : w.grownBy w4 v.ownBlock) (j : Nat) (u : Value) : Turn (fun k => some k = v.ownBlock ∨ k = W0) w (w4.setCell ⟨W0, j, none⟩ u) :=
  Turn.setCell (X := fun k => some k = v.ownBlock ∨ k = W0) (a := w) (w := w4) ⟨hg.os, hg.tape, hg.output, hg.size, fun k hk hX => hg.block k hk (fun h => hX (Or.inl h))⟩ (fun _ => Or.inr rfl) u
/-- The new row stays under the store into the field. -/
theorem owns_field {w w4 : World} {B W0 n m : Nat} {t : TypeId} {v v' : Value} {xs ys l : List Value} (hbox : Box w W0 27 l) (ho : w.ownsRow B t 1 v n xs) (ht : Nat.beq (t + 1) (27 + 1) = false) (ho' : w4.ownsRow B t 1 v' m ys)
    (hn : ∀ k, some k = v'.ownBlock → some k = v.ownBlock ∨ w.heap.size ≤ k) (j : Nat) (u : Value) : (w4.setCell ⟨W0, j, none⟩ u).ownsRow B t 1 v' m ys := by
  refine owns_turn (X := fun k => k = W0) ho' ((Turn.refl (fun k => k = W0) w4).setCell (fun _ => rfl) u) fun k hk hkW => ?_
  have hlt := hbox.lt
  rcases hn k hk with h1 | h1
  · obtain ⟨_, cur, hc⟩ := owns_block ho k h1
    exact kne hc hbox ht hkW
  · omega
theorem field_box {w w4 : World} {B W0 n : Nat} {t : TypeId} {v : Value} {xs l : List Value} (hbox : Box w W0 27 l) (ho : w.ownsRow B t 1 v n xs) (ht : Nat.beq (t + 1) (27 + 1) = false) (hg : w.grownBy w4 v.ownBlock) : Box w4 W0 27 l := by
  unfold Box
  rw [hg.block W0 hbox.lt (fun h => ?_)]
  · exact hbox
  · obtain ⟨_, cur, hc⟩ := owns_block ho W0 h
    exact kne hc hbox ht rfl
/-- A pair stays under an append to a field. -/
theorem PrOk.field {w w' : World} {B W0 n : Nat} {t : TypeId} {v : Value} {xs l : List Value} {r : PRec} (h : PrOk w B r) (hbox : Box w W0 27 l) (ho : w.ownsRow B t 1 v n xs) (ht : Turn (fun k => some k = v.ownBlock ∨ k = W0) w w')
    (h1 : Nat.beq (t + 1) (65 + 1) = false) (h2 : Nat.beq (t + 1) 0 = false) (h3 : Nat.beq (t + 1) (67 + 1) = false) (h4 : Nat.beq (t + 1) (50 + 1) = false) (h5 : Nat.beq (t + 1) (59 + 1) = false) : PrOk w' B r := by
  refine h.turn ht ?_ ?_ ?_
  · rintro k hk (hX | rfl)
    · obtain ⟨_, cur, hc⟩ := owns_block ho k hX
      exact h.other hc h1 h2 h3 hk
    · exact h.other hbox rfl rfl rfl hk
  · rintro (hX | hX)
    · obtain ⟨_, cur, hc⟩ := owns_block ho _ hX
      exact kne hc h.box h4 rfl
    · exact kne hbox h.box rfl hX.symm
  · intro S hS
    obtain ⟨l', hl⟩ := h.head S hS
    rintro (hX | hX)
    · obtain ⟨_, cur, hc⟩ := owns_block ho _ hX
      exact kne hc hl h5 rfl
    · exact kne hbox hl rfl hX.symm
theorem Full.field {w w' : World} {B W0 n : Nat} {t : TypeId} {v x : Value} {xs l : List Value} {s : ByteArray} (h : Full w x s) (hbox : Box w W0 27 l) (ho : w.ownsRow B t 1 v n xs) (ht : Turn (fun k => some k = v.ownBlock ∨ k = W0) w w')
    (h1 : Nat.beq (t + 1) (9 + 1) = false) : Full w' x s := by
  refine h.turn ht ?_
  rintro b cur hb (hX | rfl)
  · obtain ⟨_, cur, hc⟩ := owns_block ho _ hX
    exact kne hc hb h1 rfl
  · exact kne hbox hb rfl rfl
/-- Another row stays under an append to a field. -/
theorem owns_other {w w' : World} {B W0 m : Nat} {t' : TypeId} {v v' : Value} {ys l : List Value} (hbox : Box w W0 27 l) (ht : Turn (fun k => some k = v.ownBlock ∨ k = W0) w w') (ho' : w.ownsRow B t' 1 v' m ys)
    (h1 : ∀ k, some k = v'.ownBlock → some k ≠ v.ownBlock) (h2 : Nat.beq (t' + 1) (27 + 1) = false) : w'.ownsRow B t' 1 v' m ys := by
  refine owns_turn ho' ht ?_
  rintro k hk (hX | rfl)
  · exact h1 k hk hX
  · obtain ⟨_, cur, hc⟩ := owns_block ho' _ hk
    exact kne hc hbox h2 rfl
theorem owns_kinds {w : World} {B n m : Nat} {t t' : TypeId} {v v' : Value} {xs ys : List Value} (ho : w.ownsRow B t 1 v n xs) (ho' : w.ownsRow B t' 1 v' m ys) (h : Nat.beq (t' + 1) (t + 1) = false) : ∀ k, some k = v'.ownBlock → some k ≠ v.ownBlock := by
  intro k hk hk2
  obtain ⟨_, c1, h1⟩ := owns_block ho' k hk
  obtain ⟨_, c2, h2⟩ := owns_block ho k hk2
  exact kne h1 h2 h rfl

theorem St.morePs {w w4 : World} {B W0 n m1 m2 : Nat} {P : Nat → PRec} {v1 v2 v3 v' : Value} {L1 L3 : Nat → Value} (h : St w B W0 n m1 m2 P v1 v2 v3 L1 L3) (r : PRec) (hr : PrOk w B r)
    (hap : ∀ i, i < n → (P i).F ≠ r.F ∧ (P i).C ≠ r.C ∧ (P i).R ≠ r.R)
    (ho : w4.ownsRow B 48 1 v' (n + 1) (((List.range n).map fun i => ptrOf (P i)) ++ [ptrOf r])) (hg : w.grownBy w4 v1.ownBlock) (hn : ∀ k, some k = v'.ownBlock → some k = v1.ownBlock ∨ w.heap.size ≤ k) :
    St (w4.setCell ⟨W0, 0, none⟩ v') B W0 (n + 1) m1 m2 (updF P n r) v' v2 v3 L1 L3 := by
  have ht := field_turn (W0 := W0) hg 0 v'
  refine ⟨h.hW, (field_box h.box h.ps rfl hg).set 0 v', ?_, owns_other h.box ht h.ls (owns_kinds h.ps h.ls rfl) rfl, owns_other h.box ht h.l3 (owns_kinds h.ps h.l3 rfl) rfl, h.ne, ?_, ?_, ?_, ?_⟩
  · rw [range_updF P ptrOf n r]
    exact owns_field h.box h.ps rfl ho hn 0 v'
  · intro i hi
    by_cases hin : i = n
    · rw [hin, updF_same]; exact hr.field h.box h.ps ht rfl rfl rfl rfl rfl
    · rw [updF_ne P r hin]; exact (h.pr i (by omega)).field h.box h.ps ht rfl rfl rfl rfl rfl
  · intro i j hi hj hij
    by_cases hin : i = n
    · rw [hin, updF_same, updF_ne P r (by omega)]
      obtain ⟨a, b, c⟩ := hap j (by omega)
      exact ⟨fun e => a e.symm, fun e => b e.symm, fun e => c e.symm⟩
    · by_cases hjn : j = n
      · rw [hjn, updF_same, updF_ne P r hin]
        exact hap i (by omega)
      · rw [updF_ne P r hin, updF_ne P r hjn]
        exact h.ap i j (by omega) (by omega) hij
  · intro k hk
    exact (h.fl k hk).field h.box h.ps ht rfl
  · intro k hk
    exact (h.f3 k hk).field h.box h.ps ht rfl

theorem St.moreLs {w w4 : World} {B W0 n m1 m2 : Nat} {P : Nat → PRec} {v1 v2 v3 v' : Value} {L1 L3 : Nat → Value} (h : St w B W0 n m1 m2 P v1 v2 v3 L1 L3) (x : Value) (hx : Full w x (strokeS m1))
    (ho : w4.ownsRow B 32 1 v' (m1 + 1) (((List.range m1).map fun i => L1 i) ++ [x])) (hg : w.grownBy w4 v2.ownBlock) (hn : ∀ k, some k = v'.ownBlock → some k = v2.ownBlock ∨ w.heap.size ≤ k) :
    St (w4.setCell ⟨W0, 1, none⟩ v') B W0 n (m1 + 1) m2 P v1 v' v3 (updF L1 m1 x) L3 ∧ ∀ y s, Full w y s → Full (w4.setCell ⟨W0, 1, none⟩ v') y s := by
  have ht := field_turn (W0 := W0) hg 1 v'
  refine ⟨⟨h.hW, (field_box h.box h.ls rfl hg).set 1 v', owns_other h.box ht h.ps (owns_kinds h.ls h.ps rfl) rfl, ?_, owns_other h.box ht h.l3 (fun k hk hk2 => h.ne k hk2 hk) rfl, ?_, ?_, h.ap, ?_, ?_⟩, fun y s hy => hy.field h.box h.ls ht rfl⟩
  · have e := range_updF L1 id m1 x
    simp only [id] at e
    rw [e]
    exact owns_field h.box h.ls rfl ho hn 1 v'
  · intro k hk hk3
    rcases hn k hk with h1 | h1
    · exact h.ne k h1 hk3
    · have := (World.ownsRow.lt h.l3 k hk3.symm).2
      omega
  · intro i hi
    exact (h.pr i hi).field h.box h.ls ht rfl rfl rfl rfl rfl
  · intro k hk
    by_cases hkm : k = m1
    · rw [hkm, updF_same]; exact hx.field h.box h.ls ht rfl
    · rw [updF_ne L1 x hkm]; exact (h.fl k (by omega)).field h.box h.ls ht rfl
  · intro k hk
    exact (h.f3 k hk).field h.box h.ls ht rfl

theorem St.moreL3 {w w4 : World} {B W0 n m1 m2 : Nat} {P : Nat → PRec} {v1 v2 v3 v' : Value} {L1 L3 : Nat → Value} (h : St w B W0 n m1 m2 P v1 v2 v3 L1 L3) (x : Value) (hx : Full w x (strokeS (m2 / 3)))
    (ho : w4.ownsRow B 32 1 v' (m2 + 1) (((List.range m2).map fun i => L3 i) ++ [x])) (hg : w.grownBy w4 v3.ownBlock) (hn : ∀ k, some k = v'.ownBlock → some k = v3.ownBlock ∨ w.heap.size ≤ k) :
    St (w4.setCell ⟨W0, 2, none⟩ v') B W0 n m1 (m2 + 1) P v1 v2 v' L1 (updF L3 m2 x) ∧ ∀ y s, Full w y s → Full (w4.setCell ⟨W0, 2, none⟩ v') y s := by
  have ht := field_turn (W0 := W0) hg 2 v'
  refine ⟨⟨h.hW, (field_box h.box h.l3 rfl hg).set 2 v', owns_other h.box ht h.ps (owns_kinds h.l3 h.ps rfl) rfl, owns_other h.box ht h.ls h.ne rfl, ?_, ?_, ?_, h.ap, ?_, ?_⟩, fun y s hy => hy.field h.box h.l3 ht rfl⟩
  · have e := range_updF L3 id m2 x
    simp only [id] at e
    rw [e]
    exact owns_field h.box h.l3 rfl ho hn 2 v'
  · intro k hk hk3
    rcases hn k hk3 with h1 | h1
    · exact h.ne k hk h1
    · have := (World.ownsRow.lt h.ls k hk.symm).2
      omega
  · intro i hi
    exact (h.pr i hi).field h.box h.l3 ht rfl rfl rfl rfl rfl
  · intro k hk
    exact (h.fl k hk).field h.box h.l3 ht rfl
  · intro k hk
    by_cases hkm : k = m2
    · rw [hkm, updF_same]; exact hx.field h.box h.l3 ht rfl
    · rw [updF_ne L3 x hkm]; exact (h.f3 k (by omega)).field h.box h.l3 ht rfl
end Go.Proofs.YtkhnjipjbhcgdaaGreat
