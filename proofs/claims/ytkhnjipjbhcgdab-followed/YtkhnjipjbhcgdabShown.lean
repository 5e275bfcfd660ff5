import Derived.Test.YtkhnjipjbhcgdabOpen
import Derived.Lib.SmallJoins
import Derived.Test.YtkhnjipjbhcgdabPlainX
import Derived.Test.YtkhnjipjbhcgdabTExt2
/-
  HOW THE LAWS' ARGUMENTS ARE OPENED: heads and answers.
-/
namespace Go.Proofs.Ytkhnjipjbhcgdab
open Go.ChangeShapes Go.WideShapes Go.ChangeAt Go.RowKit Go.Joins

def Fits (c : Int) : Prop := -9223372036854775808 ≤ c ∧ c ≤ 9223372036854775807
theorem fits_of {c : Int} (w : (Lit.int .i64 c).wf = true) : Fits c := by
  unfold Fits
  simpa [Lit.wf, IntKind.min, IntKind.max, IntKind.signed, IntKind.bits] using w

/-- A head, by value. -/
def IsHead (v : Value) (n : Int) (r : ByteArray) : Prop := v = .agg #[.int .i64 n, .string r] ∧ Fits n ∧ r.size ≤ maxLen
/-- An answer, by value. -/
def IsAnswer (w : World) (v : Value) (size index : Int) (leaf : ByteArray) (path : List ByteArray) : Prop :=
  ∃ pv, v = .agg #[.int .i64 size, .int .i64 index, .string leaf, pv] ∧ Fits size ∧ Fits index ∧ leaf.size ≤ maxLen ∧ IsRow w pv path

theorem cellsHead : Try.prog.cellsOf 27 = 2 := by kernel_rfl
theorem cellsAnswer : Try.prog.cellsOf 53 = 4 := by kernel_rfl

set_option maxRecDepth 100000 in
theorem open_head {H : Type} {enc : TypeId × Value → H} {W : World} {base : Nat} {v : Value} {d : DataW H} {ps : List MemPlace}
    (hv : Value.okWide Try.prog W .any base 27 v) (h : DataW.Trod enc Try.prog W 0 (fun _ => true) true 27 v d ps) : ∃ n r, IsHead v n r := by
  obtain ⟨c0, c1, y0, y1, m, rfl, _, _, hy0, hy1⟩ := open_agg2 Try.underlying27 (by kernel_rfl) cellsHead hv h
  obtain ⟨a, e0, _, wa⟩ := DataW.trod_int Try.underlying3 hy0
  obtain ⟨s, e1, _, ws⟩ := DataW.trod_string Try.underlying9 hy1
  simp only [List.cons.injEq, and_true] at e0 e1
  subst e0 e1
  exact ⟨a, s, rfl, fits_of wa, ws⟩

set_option maxRecDepth 100000 in
theorem row_cell {H : Type} {enc : TypeId × Value → H} {W : World} {fuel : Nat} {c : Value} {x : DataW H × List MemPlace} (hf : DataW.trod enc Try.prog W 0 (fun _ => true) true fuel 39 [c] = some x)
    (hz : ∀ elems spare, x.1 = .slice elems spare → (elems.length + spare.length) * 16 ≤ reachBytes) : ∃ ss, IsRow W c ss := by
  rcases open_strings Try.underlying39 Try.underlying9 cellsStr hf with ⟨hcs, hx⟩ | ⟨a, len, cap, zs, hcs, _, hl, hm, hz', hx, hcell, hwz⟩
  · simp only [List.cons.injEq, and_true] at hcs
    exact ⟨[], Or.inl ⟨hcs, rfl⟩⟩
  · simp only [List.cons.injEq, and_true] at hcs
    simp only [if_true] at hz'
    have hr := hz (strs (zs.take len)) (strs (zs.drop len)) (by rw [hx])
    simp only [strs, List.length_map, List.length_take, List.length_drop, reachBytes] at hr
    have e1 : (zs.take len).length = len := by rw [List.length_take]; omega
    refine ⟨zs.take len, Or.inr ⟨a, cap, by rw [e1]; exact hcs, by omega, by omega, by rw [e1]; omega, fun s hs => hwz s (List.mem_of_mem_take hs), ?_⟩⟩
    by_cases h0 : len = 0
    · left; rw [h0, List.take_zero]
    right
    obtain ⟨b, off, spot⟩ := a
    have hspot : spot = none := by simpa [Addr.add] using World.cell?_spot (hcell 0 (by omega))
    subst hspot
    have hc : ∀ i, i < zs.length → W.cell? ⟨b, off + i, none⟩ = some (.string (zs.getD i ByteArray.empty)) := fun i hi => by
      have := hcell i hi
      rwa [show (⟨b, off, none⟩ : Addr).add i = ⟨b, off + i, none⟩ by unfold Addr.add; split <;> simp_all] at this
    refine ⟨b, off, rfl, ?_, fun i hi => ?_⟩
    · have := hc 0 (by omega)
      rcases Nat.lt_or_ge b W.heap.size with hlt | hge
      · exact hlt
      · rw [World.cell?, Array.getElem?_eq_none (by simpa using hge)] at this
        cases this
    · have hi' : i < zs.length := by rw [e1] at hi; omega
      rw [hc i hi']
      simp [List.getElem_take, hi']

set_option maxRecDepth 100000 in
theorem open_answer {H : Type} {enc : TypeId × Value → H} {W : World} {base : Nat} {v : Value} {d : DataW H} {ps : List MemPlace}
    (hv : Value.okWide Try.prog W .any base 53 v) (h : DataW.Trod enc Try.prog W 0 (fun _ => true) true 53 v d ps)
    (hw : ∀ n ∈ d.weights Try.prog 53, n ≤ reachBytes) : ∃ size index leaf path, IsAnswer W v size index leaf path := by
  obtain ⟨c0, c1, c2, c3, y0, y1, y2, y3, m, rfl, rfl, _, hy0, hy1, hy2, hy3⟩ := open_agg4 Try.underlying53 (by kernel_rfl) cellsAnswer hv h
  obtain ⟨a, e0, _, wa⟩ := DataW.trod_int Try.underlying3 hy0
  obtain ⟨b, e1, _, wb⟩ := DataW.trod_int Try.underlying3 hy1
  obtain ⟨s, e2, _, ws⟩ := DataW.trod_string Try.underlying9 hy2
  simp only [List.cons.injEq, and_true] at e0 e1 e2
  subst e0 e1 e2
  obtain ⟨path, hp⟩ := row_cell hy3 (fun elems spare he => by
    have hmem : (elems.length + spare.length) * Try.prog.bytesOf 9 ∈ (DataW.agg [y0.1, y1.1, y2.1, y3.1]).weights Try.prog 53 := by
      simp only [DataW.weights, Try.underlying53]
      exact DataW.weights_mem_each (j := 3) rfl rfl _ (by rw [he]; simp only [DataW.weights, Try.underlying39]; exact List.mem_cons_self)
    have := hw _ hmem
    rwa [bytesStr] at this)
  exact ⟨a, b, s, path, c3, rfl, fits_of wa, fits_of wb, ws, hp⟩

theorem weights_le {H : Type} {P : Program} {ts : List TypeId} {ds : List (DataW H)} (h : (DataW.weightsEach P ts ds).all (· ≤ reachBytes) = true) {j : Nat} {t : TypeId} {d : DataW H} (ht : ts[j]? = some t) (hd : ds[j]? = some d) : ∀ n ∈ d.weights P t, n ≤ reachBytes := by
  intro n hn
  have := List.all_eq_true.1 h n (DataW.weights_mem_each ht hd n hn)
  simpa using this

end Go.Proofs.Ytkhnjipjbhcgdab

/-
  THE WALK of treeheadkeep.Shown.
-/
namespace Go.Proofs.Ytkhnjipjbhcgdab
open Go.RowKit

theorem Own.any {w : World} {B : Nat} {v : Value} {ss : List ByteArray} (h : Own w B v ss) (hs : ∀ s ∈ ss, s.size = 4) (hl : ss.length ≤ maxLen) : ∃ p cap, v = .slice p ss.length cap ∧ ss.length ≤ cap ∧ cap ≤ maxLen ∧ Row w p ss ∧ (p = none → ss.length = 0) := by
  by_cases h0 : ss = []
  · subst h0
    rcases h.2 with ⟨rfl, _⟩ | ⟨g, cap, cur, rfl, hb, hg, hc, hm, hz, ht⟩
    · exact ⟨none, 0, rfl, Nat.le_refl _, by decide, row_nil w, fun _ => rfl⟩
    · exact ⟨some ⟨g, 0, none⟩, cap, rfl, hc, hm, ⟨by simp, by simp, Or.inl rfl⟩, fun hh => by cases hh⟩
  · obtain ⟨g, cap, h1, _, h2, h3, h4⟩ := h.open h0 (fun s hx => by rw [hs s hx]; decide) hl
    exact ⟨_, cap, h1, h2, h3, h4, fun hh => by cases hh⟩

/-- append where there is no room, as one step of a region that draws. -/
theorem step_append_grows {P : Program} {ops : Array Oper} {o : Oper} {a : Act} {w : World} {K : Act → World → Prop} {Q : Exit → Act → World → Prop} {E : Prop}
    (hg : o.guard = none) (s x : Operand) (t : TypeId) (hop : o.op = Op.call { callee := Callee.builtin Builtin.append, args := #[s, x], argTypes := #[t, t] })
    (e : TypeId) (i : TypeInfo) (z : Value) (size bytes : Nat) (h1 : P.underlying t = some (.slice e)) (h2 : P.info? e = some i) (h3 : i.zero = some z) (h4 : i.size = size) (h5 : i.bytes = bytes) (h6 : z.cells.size = size) (h7 : 0 < size)
    (ao : Option Addr) (n cap : Nat) (olds : List Value) (hs : a.eval s = .slice ao n cap) (hnone : ao = none → n = 0 ∧ cap = 0) (hlo : olds.length = n * size) (holds : ∀ b, ao = some b → ∀ j u, olds[j]? = some u → w.cell? (b.add j) = some u)
    (ad : Addr) (m c : Nat) (news : List Value) (hx : a.eval x = .slice (some ad) m c) (hn : news.length = m * size) (hc : ∀ j u, news[j]? = some u → w.cell? (ad.add j) = some u) (h1c : ∀ u ∈ news, u.oneCell' = true)
    (hfull : cap < n + m) (b1 : n + m ≤ maxLen) (b2 : (n + m) * bytes ≤ 140737488355328)
    (hK : ∀ v' w', w'.ownsRow w.heap.size e size v' (n + m) (olds ++ news) → w.grownBy w' none → K (a.put o.dst v') w') :
    if Region.wanted o (yielded ops a.tmps) = true then Oper.wp P o a w K Q else E := by
  have hw : Region.wanted o (yielded ops a.tmps) = true := by simp [Region.wanted, hg]
  rw [if_pos hw]
  cases ao with
  | some b =>
    obtain ⟨v', w', hrun, r1, r2⟩ := run_append_arg_grows (P := P) w t o.type e i z size bytes h1 h2 h3 h4 h5 h6 h7 b n cap olds hlo (holds b rfl) ad m c news hn hc hfull b1 b2
    unfold Oper.wp
    simp [execOp, hop, resolve, invoke, builtin, hs, hx, hrun, Result.andThen]
    exact hK v' w' r1 r2
  | none =>
    obtain ⟨rfl, rfl⟩ := hnone rfl
    obtain rfl : olds = [] := List.eq_nil_of_length_eq_zero (by simpa using hlo)
    obtain ⟨v', w', hrun, r1, r2, _⟩ := run_append_own (P := P) w w.heap.size t o.type e i z size bytes h1 h2 h3 h4 h5 h6 h7 (.slice none 0 0) 0 [] (World.ownsRow_nil w _ e size) ad m c news hn hc h1c b1 b2 (Nat.le_refl _)
    unfold Oper.wp
    simp [execOp, hop, resolve, invoke, builtin, hs, hx, hrun, Result.andThen]
    exact hK v' w' (by simpa using r1) r2

theorem ansB_at (n i : Nat) (s : ByteArray) (hn : n ≤ 40) (hi : i < n) (hs : s.size ≤ 30) : Pl.ansB (n : Int) (i : Int) s = true := by
  unfold Pl.ansB
  simp only [Bool.and_eq_true, decide_eq_true_iff]
  exact ⟨⟨⟨⟨by omega, by omega⟩, by omega⟩, by omega⟩, hs⟩
theorem incl_made (L : List ByteArray) (i : Nat) (hi : i < L.length) (h40 : L.length ≤ 40) (hs : ∀ s ∈ L, s.size ≤ 30) : inclA (Pl.root L) L.length i L[i] (Pl.path L i) = 0 := by
  obtain ⟨t, ht⟩ := Pl.leafT_path L.length L i hi rfl
  unfold inclA
  rw [if_pos ⟨Pl.root_isSum L, ansB_at _ _ _ h40 hi (hs _ (List.getElem_mem _))⟩, Int.toNat_natCast, Int.toNat_natCast, ht]
  exact if_pos rfl
theorem incl_long (L : List ByteArray) (i : Nat) (hi : i < L.length) (h40 : L.length ≤ 40) (hs : ∀ s ∈ L, s.size ≤ 30) (r : ByteArray) : inclA (Pl.root L) L.length i L[i] (Pl.path L i ++ [r]) = 6 := by
  have ht := Pl.leafT_long L i hi r
  unfold inclA
  rw [if_pos ⟨Pl.root_isSum L, ansB_at _ _ _ h40 hi (hs _ (List.getElem_mem _))⟩, Int.toNat_natCast, Int.toNat_natCast, ht]
theorem ext_made (L : List ByteArray) (m : Nat) (h1 : 1 ≤ m) (h2 : m ≤ L.length) (h40 : L.length ≤ 40) : extA m (Pl.root (L.take m)) L.length (Pl.root L) (Pl.parts L m true) = 0 := by
  obtain ⟨t, ht⟩ := Pl.bothT_parts L.length L m true (Pl.root (L.take m)) rfl (by omega) h1 h2 (fun _ => rfl)
  unfold extA
  rw [if_pos ⟨Pl.root_isSum _, Pl.root_isSum _, by omega, by omega, by omega⟩, Int.toNat_natCast, Int.toNat_natCast, ht]
  exact if_pos ⟨rfl, rfl⟩

theorem row_cells {w w' : World} {p : Option Addr} {ss : List ByteArray} {b : Addr} {j : Nat} {u : Value} (hr : Row w p ss) (hb : Below w.heap.size w w') (hp : p = some b) (hu : (ss.map Value.string)[j]? = some u) : w'.cell? (b.add j) = some u := by
  have hj : j < ss.length := by
    have := (List.getElem?_eq_some_iff.1 hu).1
    simpa using this
  rcases (hr.grow hb (Nat.le_refl _)).cell with h0 | ⟨g, o, he, _, hc⟩
  · rw [h0] at hj; cases hj
  · rw [hp] at he
    simp only [Option.some.injEq] at he
    subst he
    rw [add_plain, hc j hj]
    simpa [List.getElem?_eq_getElem hj] using hu
theorem own_more {w : World} {B B' : Nat} {v : Value} {ss : List ByteArray} {s : ByteArray} (hB : B ≤ B') (h : w.ownsRow B' 9 1 v (ss.length + 1) (ss.map Value.string ++ [.string s])) : Own w B v (ss ++ [s]) := by
  unfold Own
  rw [List.length_append, List.map_append]
  refine ⟨h.1, ?_⟩
  rcases h.2 with hn | ⟨g, cap, cur, hv, hb, rest⟩
  · exact Or.inl hn
  · exact Or.inr ⟨g, cap, cur, hv, Nat.le_trans hB hb, rest⟩

end Go.Proofs.Ytkhnjipjbhcgdab
