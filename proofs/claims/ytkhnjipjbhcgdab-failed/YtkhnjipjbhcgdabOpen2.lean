/-
  HOW THE LAWS' ARGUMENTS ARE OPENED: heads and answers.
-/
import Derived.Test.YtkhnjipjbhcgdabOpen
import Derived.Lib.SmallJoins
namespace Go.Proofs.Ytkhnjipjbhcgdab
open Go.ChangeShapes Go.WideShapes Go.ChangeAt Go.RowKit Go.Joins

def Fits (c : Int) : Prop := -9223372036854775808 ≤ c ∧ c ≤ 9223372036854775807
theorem fits_of {c : Int} (w : (Lit.int .i64 c).wf = true) : Fits c := by
  unfold Fits
  simpa [Lit.wf, IntKind.min, IntKind.max, IntKind.signed, IntKind.bits] using w

/-- A head, by value. -/
def IsHead (v : Value) (n : Int) (r : ByteArray) : Prop := v = .agg #[.int .i64 n, .string r] ∧ Fits n ∧ r.size ≤ maxLen
/-- An answer, by value. -/
def IsAnswer (w : World) (v : Value) (size index : Int) (leaf : ByteArray) (path : List ByteArray) : Prop :=
  ∃ pv, v = .agg #[.int .i64 size, .int .i64 index, .string leaf, pv] ∧ Fits size ∧ Fits index ∧ leaf.size ≤ maxLen ∧ IsRow w pv path

theorem cellsHead : Try.prog.cellsOf 27 = 2 := by kernel_rfl
theorem cellsAnswer : Try.prog.cellsOf 53 = 4 := by kernel_rfl

set_option maxRecDepth 100000 in
theorem open_head {H : Type} {enc : TypeId × Value → H} {W : World} {base : Nat} {v : Value} {d : DataW H} {ps : List MemPlace}
    (hv : Value.okWide Try.prog W .any base 27 v) (h : DataW.Trod enc Try.prog W 0 (fun _ => true) true 27 v d ps) : ∃ n r, IsHead v n r := by
  obtain ⟨c0, c1, y0, y1, m, rfl, _, _, hy0, hy1⟩ := open_agg2 Try.underlying27 (by kernel_rfl) cellsHead hv h
  obtain ⟨a, e0, _, wa⟩ := DataW.trod_int Try.underlying3 hy0
  obtain ⟨s, e1, _, ws⟩ := DataW.trod_string Try.underlying9 hy1
  simp only [List.cons.injEq, and_true] at e0 e1
  subst e0 e1
  exact ⟨a, s, rfl, fits_of wa, ws⟩

set_option maxRecDepth 100000 in
theorem row_cell {H : Type} {enc : TypeId × Value → H} {W : World} {fuel : Nat} {c : Value} {x : DataW H × List MemPlace} (hf : DataW.trod enc Try.prog W 0 (fun _ => true) true fuel 39 [c] = some x)
    (hz : ∀ elems spare, x.1 = .slice elems spare → (elems.length + spare.length) * 16 ≤ reachBytes) : ∃ ss, IsRow W c ss := by
  rcases open_strings Try.underlying39 Try.underlying9 cellsStr hf with ⟨hcs, hx⟩ | ⟨a, len, cap, zs, hcs, _, hl, hm, hz', hx, hcell, hwz⟩
  · simp only [List.cons.injEq, and_true] at hcs
    exact ⟨[], Or.inl ⟨hcs, rfl⟩⟩
  · simp only [List.cons.injEq, and_true] at hcs
    simp only [if_true] at hz'
    have hr := hz (strs (zs.take len)) (strs (zs.drop len)) (by rw [hx])
    simp only [strs, List.length_map, List.length_take, List.length_drop, reachBytes] at hr
    have e1 : (zs.take len).length = len := by rw [List.length_take]; omega
    refine ⟨zs.take len, Or.inr ⟨a, cap, by rw [e1]; exact hcs, by omega, by omega, by rw [e1]; omega, fun s hs => hwz s (List.mem_of_mem_take hs), ?_⟩⟩
    by_cases h0 : len = 0
    · left; rw [h0, List.take_zero]
    right
    obtain ⟨b, off, spot⟩ := a
    have hspot : spot = none := by simpa [Addr.add] using World.cell?_spot (hcell 0 (by omega))
    subst hspot
    have hc : ∀ i, i < zs.length → W.cell? ⟨b, off + i, none⟩ = some (.string (zs.getD i ByteArray.empty)) := fun i hi => by
      have := hcell i hi
      rwa [show (⟨b, off, none⟩ : Addr).add i = ⟨b, off + i, none⟩ by unfold Addr.add; split <;> simp_all] at this
    refine ⟨b, off, rfl, ?_, fun i hi => ?_⟩
    · have := hc 0 (by omega)
      rcases Nat.lt_or_ge b W.heap.size with hlt | hge
      · exact hlt
      · rw [World.cell?, Array.getElem?_eq_none (by simpa using hge)] at this
        cases this
    · have hi' : i < zs.length := by rw [e1] at hi; omega
      rw [hc i hi']
      simp [List.getElem_take, hi']

set_option maxRecDepth 100000 in
theorem open_answer {H : Type} {enc : TypeId × Value → H} {W : World} {base : Nat} {v : Value} {d : DataW H} {ps : List MemPlace}
    (hv : Value.okWide Try.prog W .any base 53 v) (h : DataW.Trod enc Try.prog W 0 (fun _ => true) true 53 v d ps)
    (hw : ∀ n ∈ d.weights Try.prog 53, n ≤ reachBytes) : ∃ size index leaf path, IsAnswer W v size index leaf path := by
  obtain ⟨c0, c1, c2, c3, y0, y1, y2, y3, m, rfl, rfl, _, hy0, hy1, hy2, hy3⟩ := open_agg4 Try.underlying53 (by kernel_rfl) cellsAnswer hv h
  obtain ⟨a, e0, _, wa⟩ := DataW.trod_int Try.underlying3 hy0
  obtain ⟨b, e1, _, wb⟩ := DataW.trod_int Try.underlying3 hy1
  obtain ⟨s, e2, _, ws⟩ := DataW.trod_string Try.underlying9 hy2
  simp only [List.cons.injEq, and_true] at e0 e1 e2
  subst e0 e1 e2
  obtain ⟨path, hp⟩ := row_cell hy3 (fun elems spare he => by
    have hmem : (elems.length + spare.length) * Try.prog.bytesOf 9 ∈ (DataW.agg [y0.1, y1.1, y2.1, y3.1]).weights Try.prog 53 := by
      simp only [DataW.weights, Try.underlying53]
      exact DataW.weights_mem_each (j := 3) rfl rfl _ (by rw [he]; simp only [DataW.weights, Try.underlying39]; exact List.mem_cons_self)
    have := hw _ hmem
    rwa [bytesStr] at this)
  exact ⟨a, b, s, path, c3, rfl, fits_of wa, fits_of wb, ws, hp⟩

theorem weights_le {H : Type} {P : Program} {ts : List TypeId} {ds : List (DataW H)} (h : (DataW.weightsEach P ts ds).all (· ≤ reachBytes) = true) {j : Nat} {t : TypeId} {d : DataW H} (ht : ts[j]? = some t) (hd : ds[j]? = some d) : ∀ n ∈ d.weights P t, n ≤ reachBytes := by
  intro n hn
  have := List.all_eq_true.1 h n (DataW.weights_mem_each ht hd n hn)
  simpa using this

end Go.Proofs.Ytkhnjipjbhcgdab
