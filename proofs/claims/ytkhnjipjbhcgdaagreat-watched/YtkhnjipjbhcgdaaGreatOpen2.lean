import Derived.Test.YtkhnjipjbhcgdaaGreatTSide
import Derived.Test.YtkhnjipjbhcgdaaGreatTBox
import Derived.Test.YtkhnjipjbhcgdaaGreatPlainG2
import Derived.Test.YtkhnjipjbhcgdaaGreatPlainT
import Derived.ProofKit
import Derived.OpenShut
import Derived.JoinedCond
import Derived.SliceStrings
import Derived.SizedLaws
import Derived.Lib.SmallJoins
/-
  WHAT TURNS and what stays: a relation of worlds by the blocks that may turn; the program's Fold, and the row of its texts.
-/
namespace Go.Proofs.YtkhnjipjbhcgdaaGreat
open Go.RowKit

/-- Of what lay there only what X names has turned. -/
structure Turn (X : Nat → Prop) (w w' : World) : Prop where
  os : w'.os = w.os
  tape : w'.tape = w.tape
  output : w'.output = w.output
  size : w.heap.size ≤ w'.heap.size
  block : ∀ k, k < w.heap.size → ¬ X k → w'.heap[k]? = w.heap[k]?
theorem Turn.refl (X : Nat → Prop) (w : World) : Turn X w w := ⟨rfl, rfl, rfl, Nat.le_refl _, fun _ _ _ => rfl⟩
theorem Turn.of {X : Nat → Prop} {w w' : World} (h : Below w.heap.size w w') : Turn X w w' := ⟨h.os, h.tape, h.output, h.size, fun k hk _ => h.block k hk⟩
theorem Turn.trans {X Y : Nat → Prop} {a b c : World} (h1 : Turn X a b) (h2 : Turn Y b c) (hY : ∀ k, k < a.heap.size → Y k → X k) : Turn X a c :=
  ⟨h2.os.trans h1.os, h2.tape.trans h1.tape, h2.output.trans h1.output, Nat.le_trans h1.size h2.size, fun k hk hX => (h2.block k (Nat.lt_of_lt_of_le hk h1.size) (fun h => hX (hY k hk h))).trans (h1.block k hk hX)⟩
theorem Turn.then {X : Nat → Prop} {a b c : World} (h1 : Turn X a b) (h2 : Below b.heap.size b c) : Turn X a c := h1.trans (Turn.of (X := X) h2) (fun _ _ h => h)
theorem Turn.setCell {X : Nat → Prop} {a w : World} {R o : Nat} (h : Turn X a w) (hR : R < a.heap.size → X R) (u : Value) : Turn X a (w.setCell ⟨R, o, none⟩ u) :=
  ⟨h.os, h.tape, h.output, by simpa using h.size, fun k hk hX => by
    have hne : k ≠ R := by
      intro he
      subst he
      exact hX (hR hk)
    rw [Below.heap_setCell _ _ _ _ hne]
    exact h.block k hk hX⟩
theorem Turn.below {X : Nat → Prop} {B : Nat} {a w : World} (h : Turn X a w) (hX : ∀ k, X k → B ≤ k) (hB : B ≤ a.heap.size) : Below B a w :=
  ⟨h.os, h.tape, h.output, h.size, fun k hk => h.block k (by omega) (fun hh => by have := hX k hh; omega)⟩
theorem Box.turn {X : Nat → Prop} {B : Nat} {w w' : World} {t : TypeId} {l : List Value} (h : Box w B t l) (hb : Turn X w w') (hne : ¬ X B) : Box w' B t l := by
  unfold Box
  rw [hb.block B h.lt hne]
  exact h
theorem Row.turn {X : Nat → Prop} {w w' : World} {p : Option Addr} {ss : List ByteArray} (hr : Row w p ss) (h : Turn X w w') (hB : ∀ b o, ss ≠ [] → p = some ⟨b, o, none⟩ → ¬ X b) : Row w' p ss := by
  refine ⟨hr.len, hr.size, ?_⟩
  rcases hr.cell with h0 | ⟨b, o, rfl, hb, hc⟩
  · exact Or.inl h0
  · exact Or.inr ⟨b, o, rfl, Nat.lt_of_lt_of_le hb h.size, fun i hi => by rw [World.cell?_of_block (w := w) (h.block b hb (hB b o (fun h0 => by simp [h0] at hi) rfl))]; exact hc i hi⟩
theorem SRow.turn {X : Nat → Prop} {w w' : World} {q : Option Addr} {S : List Bool} (hr : SRow w q S) (h : Turn X w w') (hB : ∀ g, q = some ⟨g, 0, none⟩ → ¬ X g) : SRow w' q S := by
  rcases hr with h0 | ⟨g, rfl, hg, hc⟩
  · exact Or.inl h0
  · exact Or.inr ⟨g, rfl, Nat.lt_of_lt_of_le hg h.size, fun i hi => by rw [World.cell?_of_block (w := w) (h.block g hg (hB g rfl))]; exact hc i hi⟩
theorem Own.turn {X : Nat → Prop} {w w' : World} {B : Nat} {v : Value} {ss : List ByteArray} (h : Own w B v ss) (hb : Turn X w w') (hX : ∀ k, some k = v.ownBlock → ¬ X k) : Own w' B v ss := by
  refine ⟨h.1, ?_⟩
  rcases h.2 with hn | ⟨g, cap, cur, rfl, hB, hg, rest⟩
  · exact Or.inl hn
  · refine Or.inr ⟨g, cap, cur, rfl, hB, ?_, rest⟩
    rw [hb.block g (Array.getElem?_eq_some_iff.1 hg).1 (hX g rfl)]
    exact hg
theorem Own.lt {w : World} {B : Nat} {v : Value} {ss : List ByteArray} (h : Own w B v ss) : ∀ k, some k = v.ownBlock → B ≤ k ∧ k < w.heap.size := fun k hk => World.ownsRow.lt h k hk.symm
theorem Own.rowAny {w : World} {B : Nat} {v : Value} {ss : List ByteArray} (h : Own w B v ss) (hs : ∀ s ∈ ss, s.size ≤ maxLen) (hl : ss.length ≤ maxLen) :
    ∃ p cap, v = .slice p ss.length cap ∧ ss.length ≤ cap ∧ cap ≤ maxLen ∧ Row w p ss := by
  rcases Classical.em (ss = []) with h0 | h0
  · subst h0
    rcases h.2 with ⟨rfl, _⟩ | ⟨g, cap, cur, rfl, _, _, hc, hm, _⟩
    · exact ⟨none, 0, rfl, Nat.le_refl _, by decide, ⟨by simp, by simp, Or.inl rfl⟩⟩
    · exact ⟨_, cap, rfl, hc, hm, ⟨by simp, by simp, Or.inl rfl⟩⟩
  · obtain ⟨g, cap, rfl, _, hc, hm, hr⟩ := h.open h0 hs hl
    exact ⟨_, cap, rfl, hc, hm, hr⟩

/-- The Fold at F: what it holds for roots, and the row of its texts. -/
structure Fo (w : World) (B F : Nat) (rv v : Value) (ts : List ByteArray) : Prop where
  le : B ≤ F
  box : Box w F 104 [rv, v]
  own : Own w B v ts
  short : ts.length ≤ 4000
  size : ∀ s ∈ ts, s.size ≤ 64
/-- The blocks of a Fold. -/
def Mine (F : Nat) (v : Value) (k : Nat) : Prop := k = F ∨ some k = v.ownBlock
theorem Fo.ne {w : World} {B F : Nat} {rv v : Value} {ts : List ByteArray} (h : Fo w B F rv v ts) : some F ≠ v.ownBlock := by
  have hg := h.box
  unfold Box at hg
  rcases h.own.2 with ⟨rfl, _⟩ | ⟨g, cap, cur, rfl, hb, hgg, _⟩
  · simp [Value.ownBlock]
  · intro he
    simp only [Value.ownBlock, Option.some.injEq] at he
    subst he
    rw [hg] at hgg
    simp at hgg
theorem Mine.le {w : World} {B F : Nat} {rv v : Value} {ts : List ByteArray} (h : Fo w B F rv v ts) : ∀ k, Mine F v k → B ≤ k := by
  rintro k (rfl | hk)
  · exact h.le
  · exact (h.own.lt k hk).1
theorem Fo.turn {X : Nat → Prop} {w w' : World} {B F : Nat} {rv v : Value} {ts : List ByteArray} (h : Fo w B F rv v ts) (hb : Turn X w w') (hX : ∀ k, Mine F v k → ¬ X k) : Fo w' B F rv v ts :=
  ⟨h.le, h.box.turn hb (hX F (Or.inl rfl)), h.own.turn hb (fun k hk => hX k (Or.inr hk)), h.short, h.size⟩
theorem Fo.grow {w w' : World} {B F : Nat} {rv v : Value} {ts : List ByteArray} (h : Fo w B F rv v ts) (hb : Below w.heap.size w w') : Fo w' B F rv v ts :=
  h.turn (X := fun _ => False) (Turn.of hb) (fun _ _ hh => hh)
end Go.Proofs.YtkhnjipjbhcgdaaGreat

/-
  HOW THE LAWS' ARGUMENTS ARE OPENED: a []string reads as a row of texts; what the bound says of it.
-/
namespace Go.Proofs.YtkhnjipjbhcgdaaGreat
open Go.ChangeShapes Go.WideShapes Go.ChangeAt Go.RowKit

theorem own : ownKnob Tryz.prog.godebug = none := by kernel_rfl
theorem laidOut : laidOutB Tryz.prog = true := by kernel_rfl
theorem cellsStr : Tryz.prog.cellsOf 9 = 1 := by kernel_rfl
theorem bytesStr : Tryz.prog.bytesOf 9 = 16 := by kernel_rfl

set_option maxRecDepth 100000 in
theorem open_row {H : Type} {enc : TypeId × Value → H} {W : World} {base : Nat} {v : Value} {d : DataW H} {ps : List MemPlace}
    (hv : Value.okWide Tryz.prog W .any base 32 v) (h : DataW.Trod enc Tryz.prog W 0 (fun _ => true) true 32 v d ps) :
    (v = .slice none 0 0 ∧ d = .nil) ∨
    ∃ (a : Addr) (cap : Nat) (ss more : List ByteArray), v = .slice (some a) ss.length cap ∧ d = .slice (strs ss) (strs more) ∧ ss.length + more.length = cap ∧ cap ≤ maxLen ∧ Row W (some a) ss := by
  obtain ⟨a0, len, cap, rfl⟩ := okWide_slice Tryz.underlying32 hv
  obtain ⟨fuel, hf⟩ := h
  rcases open_strings Tryz.underlying32 Tryz.underlying9 cellsStr hf with ⟨hcs, hx⟩ | ⟨a, len', cap', zs, hcs, _, hl, hm, hz, hx, hcell, hwz⟩
  · simp [Value.cells] at hcs
    obtain ⟨rfl, rfl, rfl⟩ := hcs
    simp only [Prod.mk.injEq] at hx
    exact Or.inl ⟨rfl, hx.1⟩
  · simp [Value.cells] at hcs
    obtain ⟨rfl, rfl, rfl⟩ := hcs
    simp only [Prod.mk.injEq] at hx
    simp only [if_true] at hz
    have e1 : (zs.take len).length = len := by rw [List.length_take]; omega
    refine Or.inr ⟨a, cap, zs.take len, zs.drop len, by rw [e1], hx.1, by rw [e1, List.length_drop]; omega, hm, by rw [e1]; omega, fun s hs => hwz s (List.mem_of_mem_take hs), ?_⟩
    by_cases h0 : len = 0
    · left; rw [h0, List.take_zero]
    right
    obtain ⟨b, off, spot⟩ := a
    have hspot : spot = none := by simpa [Addr.add] using World.cell?_spot (hcell 0 (by omega))
    subst hspot
    have hc : ∀ i, i < zs.length → W.cell? ⟨b, off + i, none⟩ = some (.string (zs.getD i ByteArray.empty)) := fun i hi => by
      have := hcell i hi
      rwa [show (⟨b, off, none⟩ : Addr).add i = ⟨b, off + i, none⟩ by unfold Addr.add; split <;> simp_all] at this
    refine ⟨b, off, rfl, ?_, fun i hi => ?_⟩
    · have := hc 0 (by omega)
      rcases Nat.lt_or_ge b W.heap.size with hlt | hge
      · exact hlt
      · rw [World.cell?, Array.getElem?_eq_none (by simpa using hge)] at this
        cases this
    · have hi' : i < zs.length := by rw [e1] at hi; omega
      rw [hc i hi']
      simp [List.getElem_take, hi']

/-- WHAT THE BOUND GIVES: so many letters, so many texts. -/
theorem bulk_strs {H : Type} (ss : List ByteArray) : Rows.uptoBulkAll (strs (H := H) ss) = ss.length + (Pl.cat ss).length := by
  induction ss with
  | nil => rfl
  | cons s r ih =>
    show Rows.uptoBulk (DataW.lit (H := H) (.string s.data.toList)) + Rows.uptoBulkAll (strs r) = _
    rw [ih]
    simp only [Rows.uptoBulk, Pl.cat, List.length_cons, List.length_append]
    omega
set_option maxRecDepth 100000 in
/-- A []string that came in, within the form's own reach. -/
theorem open_row_sized {H : Type} {enc : TypeId × Value → H} {W : World} {base : Nat} {v : Value} {d : DataW H} {ps : List MemPlace}
    (hv : Value.okWide Tryz.prog W .any base 32 v) (h : DataW.Trod enc Tryz.prog W 0 (fun _ => true) true 32 v d ps)
    (hz : ∀ elems spare, d = .slice elems spare → (elems.length + spare.length) * 16 ≤ reachBytes) : ∃ ss, IsRow W v ss := by
  rcases open_row hv h with ⟨rfl, rfl⟩ | ⟨a, cap, ss, more, rfl, rfl, hcap, hm, hr⟩
  · exact ⟨[], Or.inl ⟨rfl, rfl⟩⟩
  · have := hz _ _ rfl
    simp only [strs, List.length_map, reachBytes] at this
    exact ⟨ss, Or.inr ⟨a, cap, rfl, by omega, by omega, hr⟩⟩
set_option maxRecDepth 100000 in
/-- A []string that came in, of small bulk. -/
theorem open_row_upto {H : Type} {enc : TypeId × Value → H} {W : World} {base : Nat} {v : Value} {d : DataW H} {ps : List MemPlace}
    (hv : Value.okWide Tryz.prog W .any base 32 v) (h : DataW.Trod enc Tryz.prog W 0 (fun _ => true) true 32 v d ps)
    (hk : Rows.uptoBulk d ≤ 1048576) : ∃ ss, IsRow W v ss ∧ ss.length + (Pl.cat ss).length ≤ 1048576 := by
  rcases open_row hv h with ⟨rfl, rfl⟩ | ⟨a, cap, ss, more, rfl, rfl, hcap, hm, hr⟩
  · exact ⟨[], Or.inl ⟨rfl, rfl⟩, by simp [Pl.cat]⟩
  · simp only [Rows.uptoBulk, bulk_strs] at hk
    exact ⟨ss, Or.inr ⟨a, cap, rfl, by omega, by omega, hr⟩, by omega⟩

end Go.Proofs.YtkhnjipjbhcgdaaGreat

/-
  HOW THE LAWS' ARGUMENTS ARE OPENED: heads and answers.
-/
namespace Go.Proofs.YtkhnjipjbhcgdaaGreat
open Go.ChangeShapes Go.WideShapes Go.ChangeAt Go.RowKit Go.Joins

def Fits (c : Int) : Prop := -9223372036854775808 ≤ c ∧ c ≤ 9223372036854775807
theorem fits_of {c : Int} (w : (Lit.int .i64 c).wf = true) : Fits c := by
  unfold Fits
  simpa [Lit.wf, IntKind.min, IntKind.max, IntKind.signed, IntKind.bits] using w

/-- A head, by value. -/
def IsHead (v : Value) (n : Int) (r : ByteArray) : Prop := v = .agg #[.int .i64 n, .string r] ∧ Fits n ∧ r.size ≤ maxLen
/-- An answer, by value. -/
def IsAnswer (w : World) (v : Value) (size index : Int) (leaf : ByteArray) (path : List ByteArray) : Prop :=
  ∃ pv, v = .agg #[.int .i64 size, .int .i64 index, .string leaf, pv] ∧ Fits size ∧ Fits index ∧ leaf.size ≤ maxLen ∧ IsRow w pv path

theorem cellsHead : Tryz.prog.cellsOf 59 = 2 := by kernel_rfl
theorem cellsAnswer : Tryz.prog.cellsOf 37 = 4 := by kernel_rfl

set_option maxRecDepth 100000 in
theorem open_head {H : Type} {enc : TypeId × Value → H} {W : World} {base : Nat} {v : Value} {d : DataW H} {ps : List MemPlace}
    (hv : Value.okWide Tryz.prog W .any base 59 v) (h : DataW.Trod enc Tryz.prog W 0 (fun _ => true) true 59 v d ps) : ∃ n r, IsHead v n r := by
  obtain ⟨c0, c1, y0, y1, m, rfl, _, _, hy0, hy1⟩ := open_agg2 Tryz.underlying59 (by kernel_rfl) cellsHead hv h
  obtain ⟨a, e0, _, wa⟩ := DataW.trod_int Tryz.underlying3 hy0
  obtain ⟨s, e1, _, ws⟩ := DataW.trod_string Tryz.underlying9 hy1
  simp only [List.cons.injEq, and_true] at e0 e1
  subst e0 e1
  exact ⟨a, s, rfl, fits_of wa, ws⟩

set_option maxRecDepth 100000 in
theorem row_cell {H : Type} {enc : TypeId × Value → H} {W : World} {fuel : Nat} {c : Value} {x : DataW H × List MemPlace} (hf : DataW.trod enc Tryz.prog W 0 (fun _ => true) true fuel 32 [c] = some x)
    (hz : ∀ elems spare, x.1 = .slice elems spare → (elems.length + spare.length) * 16 ≤ reachBytes) : ∃ ss, IsRow W c ss := by
  rcases open_strings Tryz.underlying32 Tryz.underlying9 cellsStr hf with ⟨hcs, hx⟩ | ⟨a, len, cap, zs, hcs, _, hl, hm, hz', hx, hcell, hwz⟩
  · simp only [List.cons.injEq, and_true] at hcs
    exact ⟨[], Or.inl ⟨hcs, rfl⟩⟩
  · simp only [List.cons.injEq, and_true] at hcs
    simp only [if_true] at hz'
    have hr := hz (strs (zs.take len)) (strs (zs.drop len)) (by rw [hx])
    simp only [strs, List.length_map, List.length_take, List.length_drop, reachBytes] at hr
    have e1 : (zs.take len).length = len := by rw [List.length_take]; omega
    refine ⟨zs.take len, Or.inr ⟨a, cap, by rw [e1]; exact hcs, by omega, by omega, by rw [e1]; omega, fun s hs => hwz s (List.mem_of_mem_take hs), ?_⟩⟩
    by_cases h0 : len = 0
    · left; rw [h0, List.take_zero]
    right
    obtain ⟨b, off, spot⟩ := a
    have hspot : spot = none := by simpa [Addr.add] using World.cell?_spot (hcell 0 (by omega))
    subst hspot
    have hc : ∀ i, i < zs.length → W.cell? ⟨b, off + i, none⟩ = some (.string (zs.getD i ByteArray.empty)) := fun i hi => by
      have := hcell i hi
      rwa [show (⟨b, off, none⟩ : Addr).add i = ⟨b, off + i, none⟩ by unfold Addr.add; split <;> simp_all] at this
    refine ⟨b, off, rfl, ?_, fun i hi => ?_⟩
    · have := hc 0 (by omega)
      rcases Nat.lt_or_ge b W.heap.size with hlt | hge
      · exact hlt
      · rw [World.cell?, Array.getElem?_eq_none (by simpa using hge)] at this
        cases this
    · have hi' : i < zs.length := by rw [e1] at hi; omega
      rw [hc i hi']
      simp [List.getElem_take, hi']

set_option maxRecDepth 100000 in
theorem open_answer {H : Type} {enc : TypeId × Value → H} {W : World} {base : Nat} {v : Value} {d : DataW H} {ps : List MemPlace}
    (hv : Value.okWide Tryz.prog W .any base 37 v) (h : DataW.Trod enc Tryz.prog W 0 (fun _ => true) true 37 v d ps)
    (hw : ∀ n ∈ d.weights Tryz.prog 37, n ≤ reachBytes) : ∃ size index leaf path, IsAnswer W v size index leaf path := by
  obtain ⟨c0, c1, c2, c3, y0, y1, y2, y3, m, rfl, rfl, _, hy0, hy1, hy2, hy3⟩ := open_agg4 Tryz.underlying37 (by kernel_rfl) cellsAnswer hv h
  obtain ⟨a, e0, _, wa⟩ := DataW.trod_int Tryz.underlying3 hy0
  obtain ⟨b, e1, _, wb⟩ := DataW.trod_int Tryz.underlying3 hy1
  obtain ⟨s, e2, _, ws⟩ := DataW.trod_string Tryz.underlying9 hy2
  simp only [List.cons.injEq, and_true] at e0 e1 e2
  subst e0 e1 e2
  obtain ⟨path, hp⟩ := row_cell hy3 (fun elems spare he => by
    have hmem : (elems.length + spare.length) * Tryz.prog.bytesOf 9 ∈ (DataW.agg [y0.1, y1.1, y2.1, y3.1]).weights Tryz.prog 37 := by
      simp only [DataW.weights, Tryz.underlying37]
      exact DataW.weights_mem_each (j := 3) rfl rfl _ (by rw [he]; simp only [DataW.weights, Tryz.underlying32]; exact List.mem_cons_self)
    have := hw _ hmem
    rwa [bytesStr] at this)
  exact ⟨a, b, s, path, c3, rfl, fits_of wa, fits_of wb, ws, hp⟩

theorem weights_le {H : Type} {P : Program} {ts : List TypeId} {ds : List (DataW H)} (h : (DataW.weightsEach P ts ds).all (· ≤ reachBytes) = true) {j : Nat} {t : TypeId} {d : DataW H} (ht : ts[j]? = some t) (hd : ds[j]? = some d) : ∀ n ∈ d.weights P t, n ≤ reachBytes := by
  intro n hn
  have := List.all_eq_true.1 h n (DataW.weights_mem_each ht hd n hn)
  simpa using this

end Go.Proofs.YtkhnjipjbhcgdaaGreat
