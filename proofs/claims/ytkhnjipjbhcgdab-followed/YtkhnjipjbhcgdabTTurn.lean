import Derived.Test.YtkhnjipjbhcgdabTSide
import Derived.Test.YtkhnjipjbhcgdabTBox
import Derived.Test.YtkhnjipjbhcgdabPlainG2
/-
  WHAT TURNS and what stays: a relation of worlds by the blocks that may turn; the program's Fold, and the row of its texts.
-/
namespace Go.Proofs.Ytkhnjipjbhcgdab
open Go.RowKit

/-- Of what lay there only what X names has turned. -/
structure Turn (X : Nat → Prop) (w w' : World) : Prop where
  os : w'.os = w.os
  tape : w'.tape = w.tape
  output : w'.output = w.output
  size : w.heap.size ≤ w'.heap.size
  block : ∀ k, k < w.heap.size → ¬ X k → w'.heap[k]? = w.heap[k]?
theorem Turn.refl (X : Nat → Prop) (w : World) : Turn X w w := ⟨rfl, rfl, rfl, Nat.le_refl _, fun _ _ _ => rfl⟩
theorem Turn.of {X : Nat → Prop} {w w' : World} (h : Below w.heap.size w w') : Turn X w w' := ⟨h.os, h.tape, h.output, h.size, fun k hk _ => h.block k hk⟩
theorem Turn.trans {X Y : Nat → Prop} {a b c : World} (h1 : Turn X a b) (h2 : Turn Y b c) (hY : ∀ k, k < a.heap.size → Y k → X k) : Turn X a c :=
  ⟨h2.os.trans h1.os, h2.tape.trans h1.tape, h2.output.trans h1.output, Nat.le_trans h1.size h2.size, fun k hk hX => (h2.block k (Nat.lt_of_lt_of_le hk h1.size) (fun h => hX (hY k hk h))).trans (h1.block k hk hX)⟩
theorem Turn.then {X : Nat → Prop} {a b c : World} (h1 : Turn X a b) (h2 : Below b.heap.size b c) : Turn X a c := h1.trans (Turn.of (X := X) h2) (fun _ _ h => h)
theorem Turn.setCell {X : Nat → Prop} {a w : World} {R o : Nat} (h : Turn X a w) (hR : R < a.heap.size → X R) (u : Value) : Turn X a (w.setCell ⟨R, o, none⟩ u) :=
  ⟨h.os, h.tape, h.output, by simpa using h.size, fun k hk hX => by
    have hne : k ≠ R := by
      intro he
      subst he
      exact hX (hR hk)
    rw [Below.heap_setCell _ _ _ _ hne]
    exact h.block k hk hX⟩
theorem Turn.below {X : Nat → Prop} {B : Nat} {a w : World} (h : Turn X a w) (hX : ∀ k, X k → B ≤ k) (hB : B ≤ a.heap.size) : Below B a w :=
  ⟨h.os, h.tape, h.output, h.size, fun k hk => h.block k (by omega) (fun hh => by have := hX k hh; omega)⟩
theorem Box.turn {X : Nat → Prop} {B : Nat} {w w' : World} {t : TypeId} {l : List Value} (h : Box w B t l) (hb : Turn X w w') (hne : ¬ X B) : Box w' B t l := by
  unfold Box
  rw [hb.block B h.lt hne]
  exact h
theorem Row.turn {X : Nat → Prop} {w w' : World} {p : Option Addr} {ss : List ByteArray} (hr : Row w p ss) (h : Turn X w w') (hB : ∀ b o, ss ≠ [] → p = some ⟨b, o, none⟩ → ¬ X b) : Row w' p ss := by
  refine ⟨hr.len, hr.size, ?_⟩
  rcases hr.cell with h0 | ⟨b, o, rfl, hb, hc⟩
  · exact Or.inl h0
  · exact Or.inr ⟨b, o, rfl, Nat.lt_of_lt_of_le hb h.size, fun i hi => by rw [World.cell?_of_block (w := w) (h.block b hb (hB b o (fun h0 => by simp [h0] at hi) rfl))]; exact hc i hi⟩
theorem SRow.turn {X : Nat → Prop} {w w' : World} {q : Option Addr} {S : List Bool} (hr : SRow w q S) (h : Turn X w w') (hB : ∀ g, q = some ⟨g, 0, none⟩ → ¬ X g) : SRow w' q S := by
  rcases hr with h0 | ⟨g, rfl, hg, hc⟩
  · exact Or.inl h0
  · exact Or.inr ⟨g, rfl, Nat.lt_of_lt_of_le hg h.size, fun i hi => by rw [World.cell?_of_block (w := w) (h.block g hg (hB g rfl))]; exact hc i hi⟩
theorem Own.turn {X : Nat → Prop} {w w' : World} {B : Nat} {v : Value} {ss : List ByteArray} (h : Own w B v ss) (hb : Turn X w w') (hX : ∀ k, some k = v.ownBlock → ¬ X k) : Own w' B v ss := by
  refine ⟨h.1, ?_⟩
  rcases h.2 with hn | ⟨g, cap, cur, rfl, hB, hg, rest⟩
  · exact Or.inl hn
  · refine Or.inr ⟨g, cap, cur, rfl, hB, ?_, rest⟩
    rw [hb.block g (Array.getElem?_eq_some_iff.1 hg).1 (hX g rfl)]
    exact hg
theorem Own.lt {w : World} {B : Nat} {v : Value} {ss : List ByteArray} (h : Own w B v ss) : ∀ k, some k = v.ownBlock → B ≤ k ∧ k < w.heap.size := fun k hk => World.ownsRow.lt h k hk.symm
theorem Own.rowAny {w : World} {B : Nat} {v : Value} {ss : List ByteArray} (h : Own w B v ss) (hs : ∀ s ∈ ss, s.size ≤ maxLen) (hl : ss.length ≤ maxLen) :
    ∃ p cap, v = .slice p ss.length cap ∧ ss.length ≤ cap ∧ cap ≤ maxLen ∧ Row w p ss := by
  rcases Classical.em (ss = []) with h0 | h0
  · subst h0
    rcases h.2 with ⟨rfl, _⟩ | ⟨g, cap, cur, rfl, _, _, hc, hm, _⟩
    · exact ⟨none, 0, rfl, Nat.le_refl _, by decide, ⟨by simp, by simp, Or.inl rfl⟩⟩
    · exact ⟨_, cap, rfl, hc, hm, ⟨by simp, by simp, Or.inl rfl⟩⟩
  · obtain ⟨g, cap, rfl, _, hc, hm, hr⟩ := h.open h0 hs hl
    exact ⟨_, cap, rfl, hc, hm, hr⟩

/-- The Fold at F: what it holds for roots, and the row of its texts. -/
structure Fo (w : World) (B F : Nat) (rv v : Value) (ts : List ByteArray) : Prop where
  le : B ≤ F
  box : Box w F 84 [rv, v]
  own : Own w B v ts
  short : ts.length ≤ 4000
  size : ∀ s ∈ ts, s.size ≤ 64
/-- The blocks of a Fold. -/
def Mine (F : Nat) (v : Value) (k : Nat) : Prop := k = F ∨ some k = v.ownBlock
theorem Fo.ne {w : World} {B F : Nat} {rv v : Value} {ts : List ByteArray} (h : Fo w B F rv v ts) : some F ≠ v.ownBlock := by
  have hg := h.box
  unfold Box at hg
  rcases h.own.2 with ⟨rfl, _⟩ | ⟨g, cap, cur, rfl, hb, hgg, _⟩
  · simp [Value.ownBlock]
  · intro he
    simp only [Value.ownBlock, Option.some.injEq] at he
    subst he
    rw [hg] at hgg
    simp at hgg
theorem Mine.le {w : World} {B F : Nat} {rv v : Value} {ts : List ByteArray} (h : Fo w B F rv v ts) : ∀ k, Mine F v k → B ≤ k := by
  rintro k (rfl | hk)
  · exact h.le
  · exact (h.own.lt k hk).1
theorem Fo.turn {X : Nat → Prop} {w w' : World} {B F : Nat} {rv v : Value} {ts : List ByteArray} (h : Fo w B F rv v ts) (hb : Turn X w w') (hX : ∀ k, Mine F v k → ¬ X k) : Fo w' B F rv v ts :=
  ⟨h.le, h.box.turn hb (hX F (Or.inl rfl)), h.own.turn hb (fun k hk => hX k (Or.inr hk)), h.short, h.size⟩
theorem Fo.grow {w w' : World} {B F : Nat} {rv v : Value} {ts : List ByteArray} (h : Fo w B F rv v ts) (hb : Below w.heap.size w w') : Fo w' B F rv v ts :=
  h.turn (X := fun _ => False) (Turn.of hb) (fun _ _ hh => hh)
end Go.Proofs.Ytkhnjipjbhcgdab
