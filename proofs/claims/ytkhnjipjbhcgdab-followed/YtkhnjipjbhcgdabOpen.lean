import Derived.Test.YtkhnjipjbhcgdabRooted
import Derived.Test.YtkhnjipjbhcgdabIncl
import Derived.Test.YtkhnjipjbhcgdabNum
import Derived.ProofKit
import Derived.OpenShut
import Derived.JoinedCond
import Derived.SliceStrings
import Derived.SizedLaws
/-
  SMALL HELP for the walks of treeheadkeep's statements: rows laid anew, rows that came out.
-/
namespace Go.Proofs.Ytkhnjipjbhcgdab
open Go.RowKit

theorem new_root (ss : List ByteArray) (r : ByteArray) (w : World) (hl : ss.length ≤ 40) (hs : ∀ s ∈ ss, s.size ≤ 30) (he : Pl.root ss = r) :
    Calls Try.prog 24 #[.slice (some ⟨w.heap.size, 0, none⟩) ss.length ss.length] (w.alloc (.cells (ss.map Value.string).toArray 9)) fun e w' => e = .returned (.tuple #[.string r, .int .i64 0]) ∧ Below w.heap.size w w' :=
  (troot_to (some ⟨w.heap.size, 0, none⟩) ss.length ss.length ss r _ rfl (Nat.le_refl _) (by omega) (Row.lit w ss (le_max hl) (fun s h => Nat.le_trans (hs s h) (by decide))) hl hs he).mono fun e w' ⟨he, hb⟩ => ⟨he, ((Below.refl _ w).alloc (Nat.le_refl _) _).trans (hb.mono (by simp))⟩
theorem new_sum (ss : List ByteArray) (r : ByteArray) (w : World) (hl : ss.length ≤ 40) (hs : ∀ s ∈ ss, s.size ≤ maxLen) (he : Pl.sum (Pl.cat ss) = r) :
    Calls Try.prog 9 #[.slice (some ⟨w.heap.size, 0, none⟩) ss.length ss.length] (w.alloc (.cells (ss.map Value.string).toArray 9)) fun e w' => e = .returned (.string r) ∧ Below w.heap.size w w' :=
  (sum_to (some ⟨w.heap.size, 0, none⟩) ss.length ss r _ (Row.lit w ss (le_max hl) hs) he).mono fun e w' ⟨he, hb⟩ => ⟨he, ((Below.refl _ w).alloc (Nat.le_refl _) _).trans (hb.mono (by simp))⟩

theorem Own.rowOf {w : World} {B : Nat} {v : Value} {ss : List ByteArray} (h : Own w B v ss) (hne : ss ≠ []) (h4 : ∀ s ∈ ss, s.size = 4) (hl : ss.length ≤ 40) : ∃ g cap, v = .slice (some ⟨g, 0, none⟩) ss.length cap ∧ ss.length ≤ cap ∧ cap ≤ maxLen ∧ Row w (some ⟨g, 0, none⟩) ss := by
  obtain ⟨g, cap, h1, _, h2, h3, h5⟩ := h.open hne (fun s hs => by rw [h4 s hs]; decide) (le_max hl)
  exact ⟨g, cap, h1, h2, h3, h5⟩
theorem Row.cellAt {w : World} {g o : Nat} {ss : List ByteArray} (h : Row w (some ⟨g, o, none⟩) ss) (k : Nat) (hk : k < ss.length) : w.cell? ⟨g, o + k, none⟩ = some (.string ss[k]) := by
  rcases h.cell with h0 | ⟨b', o', he, _, hc⟩
  · rw [h0] at hk; cases hk
  · simp only [Option.some.injEq, Addr.mk.injEq, and_true] at he
    obtain ⟨rfl, rfl⟩ := he
    exact hc k hk

end Go.Proofs.Ytkhnjipjbhcgdab

/-
  HOW THE LAWS' ARGUMENTS ARE OPENED: a []string reads as a row of texts; what the bound says of it.
-/
namespace Go.Proofs.Ytkhnjipjbhcgdab
open Go.ChangeShapes Go.WideShapes Go.ChangeAt Go.RowKit

theorem own : ownKnob Try.prog.godebug = none := by kernel_rfl
theorem laidOut : laidOutB Try.prog = true := by kernel_rfl
theorem cellsStr : Try.prog.cellsOf 9 = 1 := by kernel_rfl
theorem bytesStr : Try.prog.bytesOf 9 = 16 := by kernel_rfl

set_option maxRecDepth 100000 in
theorem open_row {H : Type} {enc : TypeId × Value → H} {W : World} {base : Nat} {v : Value} {d : DataW H} {ps : List MemPlace}
    (hv : Value.okWide Try.prog W .any base 39 v) (h : DataW.Trod enc Try.prog W 0 (fun _ => true) true 39 v d ps) :
    (v = .slice none 0 0 ∧ d = .nil) ∨
    ∃ (a : Addr) (cap : Nat) (ss more : List ByteArray), v = .slice (some a) ss.length cap ∧ d = .slice (strs ss) (strs more) ∧ ss.length + more.length = cap ∧ cap ≤ maxLen ∧ Row W (some a) ss := by
  obtain ⟨a0, len, cap, rfl⟩ := okWide_slice Try.underlying39 hv
  obtain ⟨fuel, hf⟩ := h
  rcases open_strings Try.underlying39 Try.underlying9 cellsStr hf with ⟨hcs, hx⟩ | ⟨a, len', cap', zs, hcs, _, hl, hm, hz, hx, hcell, hwz⟩
  · simp [Value.cells] at hcs
    obtain ⟨rfl, rfl, rfl⟩ := hcs
    simp only [Prod.mk.injEq] at hx
    exact Or.inl ⟨rfl, hx.1⟩
  · simp [Value.cells] at hcs
    obtain ⟨rfl, rfl, rfl⟩ := hcs
    simp only [Prod.mk.injEq] at hx
    simp only [if_true] at hz
    have e1 : (zs.take len).length = len := by rw [List.length_take]; omega
    refine Or.inr ⟨a, cap, zs.take len, zs.drop len, by rw [e1], hx.1, by rw [e1, List.length_drop]; omega, hm, by rw [e1]; omega, fun s hs => hwz s (List.mem_of_mem_take hs), ?_⟩
    by_cases h0 : len = 0
    · left; rw [h0, List.take_zero]
    right
    obtain ⟨b, off, spot⟩ := a
    have hspot : spot = none := by simpa [Addr.add] using World.cell?_spot (hcell 0 (by omega))
    subst hspot
    have hc : ∀ i, i < zs.length → W.cell? ⟨b, off + i, none⟩ = some (.string (zs.getD i ByteArray.empty)) := fun i hi => by
      have := hcell i hi
      rwa [show (⟨b, off, none⟩ : Addr).add i = ⟨b, off + i, none⟩ by unfold Addr.add; split <;> simp_all] at this
    refine ⟨b, off, rfl, ?_, fun i hi => ?_⟩
    · have := hc 0 (by omega)
      rcases Nat.lt_or_ge b W.heap.size with hlt | hge
      · exact hlt
      · rw [World.cell?, Array.getElem?_eq_none (by simpa using hge)] at this
        cases this
    · have hi' : i < zs.length := by rw [e1] at hi; omega
      rw [hc i hi']
      simp [List.getElem_take, hi']

/-- WHAT THE BOUND GIVES: so many letters, so many texts. -/
theorem bulk_strs {H : Type} (ss : List ByteArray) : Rows.uptoBulkAll (strs (H := H) ss) = ss.length + (Pl.cat ss).length := by
  induction ss with
  | nil => rfl
  | cons s r ih =>
    show Rows.uptoBulk (DataW.lit (H := H) (.string s.data.toList)) + Rows.uptoBulkAll (strs r) = _
    rw [ih]
    simp only [Rows.uptoBulk, Pl.cat, List.length_cons, List.length_append]
    omega
set_option maxRecDepth 100000 in
/-- A []string that came in, within the form's own reach. -/
theorem open_row_sized {H : Type} {enc : TypeId × Value → H} {W : World} {base : Nat} {v : Value} {d : DataW H} {ps : List MemPlace}
    (hv : Value.okWide Try.prog W .any base 39 v) (h : DataW.Trod enc Try.prog W 0 (fun _ => true) true 39 v d ps)
    (hz : ∀ elems spare, d = .slice elems spare → (elems.length + spare.length) * 16 ≤ reachBytes) : ∃ ss, IsRow W v ss := by
  rcases open_row hv h with ⟨rfl, rfl⟩ | ⟨a, cap, ss, more, rfl, rfl, hcap, hm, hr⟩
  · exact ⟨[], Or.inl ⟨rfl, rfl⟩⟩
  · have := hz _ _ rfl
    simp only [strs, List.length_map, reachBytes] at this
    exact ⟨ss, Or.inr ⟨a, cap, rfl, by omega, by omega, hr⟩⟩
set_option maxRecDepth 100000 in
/-- A []string that came in, of small bulk. -/
theorem open_row_upto {H : Type} {enc : TypeId × Value → H} {W : World} {base : Nat} {v : Value} {d : DataW H} {ps : List MemPlace}
    (hv : Value.okWide Try.prog W .any base 39 v) (h : DataW.Trod enc Try.prog W 0 (fun _ => true) true 39 v d ps)
    (hk : Rows.uptoBulk d ≤ 1048576) : ∃ ss, IsRow W v ss ∧ ss.length + (Pl.cat ss).length ≤ 1048576 := by
  rcases open_row hv h with ⟨rfl, rfl⟩ | ⟨a, cap, ss, more, rfl, rfl, hcap, hm, hr⟩
  · exact ⟨[], Or.inl ⟨rfl, rfl⟩, by simp [Pl.cat]⟩
  · simp only [Rows.uptoBulk, bulk_strs] at hk
    exact ⟨ss, Or.inr ⟨a, cap, rfl, by omega, by omega, hr⟩, by omega⟩

end Go.Proofs.Ytkhnjipjbhcgdab
